/- Plain mathematics that the general law of sums asks for: a restricted sum is a part of the sum, and all of it for sets without a common element; one term more; the sums of parts hold 0 and the set. -/
import Derived.Test.YtkejpikhlejmaaaDoorSumK
namespace Go.Proofs.YtkejpikhlejmaaaDoor
open Go.RowKit
theorem and_of_bits {r s : Nat} (h : ∀ z, r.testBit z = true → s.testBit z = true) : r &&& s = r := by
  apply Nat.eq_of_testBit_eq
  intro i
  rw [Nat.testBit_and]
  cases hr : r.testBit i with
  | false => rfl
  | true => rw [h i hr]; rfl
theorem rst_sub {l : List Int} (hg : grpB l = true) {a b : Nat} (ha : a < 2 ^ (prodI l).toNat) (hb : b < 2 ^ (prodI l).toNat) (z : Nat) (h : (rstN l a b).testBit z = true) : (sumN l a b).testBit z = true := by
  have hb24 := grp_pow hg hb
  have ha24 := grp_pow hg ha
  rw [sumN_comm l ha24 hb24, sumN_bit l hb24 ha24]
  unfold rstN at h
  rw [orG_bit] at h
  obtain ⟨x, hx, h⟩ := h
  rw [movN_bit l (woN_le b x hb24)] at h
  obtain ⟨y, hy, e⟩ := h
  rw [woN_bit, Bool.and_eq_true] at hy
  exact ⟨x, y, (mem_bits ha24 x).1 hx, hy.1, e⟩
theorem rst_disj {l : List Int} (hg : grpB l = true) {a b : Nat} (ha : a < 2 ^ (prodI l).toNat) (hb : b < 2 ^ (prodI l).toNat) (h : a &&& b = 0) : rstN l a b = sumN l a b := by
  have hb24 := grp_pow hg hb
  have ha24 := grp_pow hg ha
  rw [sumN_comm l ha24 hb24]
  unfold rstN sumN
  apply orG_congr
  intro x hx
  have hxa := (mem_bits ha24 x).1 hx
  have hxb : b.testBit x = false := by
    have h2 : (a &&& b).testBit x = false := by rw [h]; simp
    rw [Nat.testBit_and, hxa, Bool.true_and] at h2
    exact h2
  have e : woN b x = b := by
    apply Nat.eq_of_testBit_eq
    intro i
    rw [woN_bit]
    by_cases e : i = x
    · subst e; simp [hxb]
    · simp [e]
  rw [e]
theorem small_i64 {l : List Int} (hg : grpB l = true) {a : Nat} (h : a < 2 ^ (prodI l).toNat) : a < 9223372036854775808 := by
  have : a < 16777216 := grp_pow hg h
  omega
theorem rst_and {l : List Int} {a b : Int} (h : two l a b = true) : bits .and .i64 (rstE l a b) (sumE l a b) = rstE l a b := by
  have h2 := h
  obtain ⟨hg, a, b, rfl, rfl, ha, hb⟩ := two_true h
  unfold rstE sumE
  rw [if_pos h2, if_pos h2]
  show bits .and .i64 ((rstN l a b : Nat) : Int) ((sumN l a b : Nat) : Int) = ((rstN l a b : Nat) : Int)
  rw [andI _ _ (small_i64 hg (rstN_lt hg a b)) (small_i64 hg (sumN_lt hg a b)), and_of_bits (rst_sub hg ha hb)]
theorem rst_all {l : List Int} {a b : Int} (h : two l a b = true) (h0 : bits .and .i64 a b = 0) : rstE l a b = sumE l a b := by
  have h2 := h
  obtain ⟨hg, a, b, rfl, rfl, ha, hb⟩ := two_true h
  rw [andI _ _ (small_i64 hg ha) (small_i64 hg hb)] at h0
  unfold rstE sumE
  rw [if_pos h2, if_pos h2]
  show ((rstN l a b : Nat) : Int) = ((sumN l a b : Nat) : Int)
  rw [rst_disj hg ha hb (by omega)]
theorem two_of_sum {l : List Int} {a b : Int} (h : 0 ≤ sumE l a b) : two l a b = true := by
  cases h2 : two l a b with
  | true => rfl
  | false => unfold sumE at h; rw [if_neg (by simp [h2])] at h; omega
theorem mlt_next {l : List Int} {c n : Int} (h : 0 ≤ mltE l c n) (hn : n < 30) : mltE l c (n + 1) = sumE l (mltE l c n) c := by
  cases hs : isS l c with
  | false => unfold mltE at h; rw [if_neg (by simp [hs])] at h; omega
  | true =>
    by_cases hb : 0 ≤ n ∧ n ≤ 30
    · obtain ⟨hg, c, rfl, hc, _⟩ := isS_true hs
      have e1 : mltE l (c : Int) n = ((powS l c n.toNat : Nat) : Int) := by unfold mltE; rw [if_pos hs, if_pos hb]; rfl
      have e2 : mltE l (c : Int) (n + 1) = ((powS l c (n + 1).toNat : Nat) : Int) := by unfold mltE; rw [if_pos hs, if_pos (by omega)]; rfl
      have e3 : (n + 1).toNat = n.toNat + 1 := by omega
      have ht : two l ((powS l c n.toNat : Nat) : Int) (c : Int) = true := by
        unfold two
        rw [isS_of hg (powS_lt hg c n.toNat), hs]; rfl
      rw [e1, e2, e3]
      unfold sumE
      rw [if_pos ht]
      rfl
    · unfold mltE at h; rw [if_pos hs, if_neg hb] at h; omega
theorem fold_keep (l : List Int) : ∀ (L : List Nat) (s z : Nat), s.testBit z = true → (L.foldl (fun s x => s ||| movN l s x) s).testBit z = true
  | [], _, _, h => h
  | x :: t, s, z, h => fold_keep l t (s ||| movN l s x) z (by rw [Nat.testBit_or, h, Bool.true_or])
theorem fold_has {l : List Int} (hg : grpB l = true) : ∀ (L : List Nat) (s : Nat), s < 2 ^ 24 → s.testBit 0 = true → (∀ x ∈ L, ((x : Nat) : Int) < prodI l) → ∀ x ∈ L, (L.foldl (fun s x => s ||| movN l s x) s).testBit x = true
  | [], _, _, _, _, _, hx => by cases hx
  | y :: t, s, h24, h0, hL, x, hx => by
    rw [List.foldl_cons]
    rcases List.mem_cons.1 hx with rfl | hx
    · apply fold_keep
      rw [Nat.testBit_or]
      have : (movN l s x).testBit x = true := by
        rw [movN_bit l h24]
        refine ⟨0, h0, ?_⟩
        rw [addN_comm]
        have := addN_zero (ords_grp hg) (x := ((x : Nat) : Int)) (by omega) (hL x (by simp))
        show (addN l ((x : Nat) : Int) 0).toNat = x
        rw [this]; omega
      rw [this, Bool.or_true]
    · exact fold_has hg t _ (Nat.or_lt_two_pow h24 (grp_pow hg (movN_lt hg s y))) (by rw [Nat.testBit_or, h0, Bool.true_or]) (fun z hz => hL z (by simp [hz])) x hx
theorem sub_parts {l : List Int} {v : Int} (h : 0 ≤ subE l v) : bits .and .i64 (subE l v) 1 = 1 ∧ bits .and .i64 (subE l v) v = v := by
  cases hs : isS l v with
  | false => unfold subE at h; rw [if_neg (by simp [hs])] at h; omega
  | true =>
    clear h
    obtain ⟨hg, a, rfl, ha, h24⟩ := isS_true hs
    have e : subE l (a : Int) = ((subK l (bitsN a) : Nat) : Int) := by unfold subE; rw [if_pos hs]; rfl
    have hlt := small_i64 hg (subK_lt hg (bitsN a))
    rw [e]
    constructor
    · have h0 : (subK l (bitsN a)).testBit 0 = true := fold_keep l (bitsN a) 1 0 (by decide)
      rw [Nat.testBit_zero, decide_eq_true_eq] at h0
      rw [and1 _ hlt, h0]; rfl
    · rw [andI _ _ hlt (small_i64 hg ha), Nat.and_comm, and_of_bits]
      intro z hz
      exact fold_has hg (bitsN a) 1 (by decide) (by decide) (fun x hx => grp_elt hg ha hx) z ((mem_bits h24 z).2 hz)
end Go.Proofs.YtkejpikhlejmaaaDoor
