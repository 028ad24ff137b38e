/- Merged: PerMath PerAx. -/
import Derived.Test.YtehdneppleifdaaDoorMGAR
import Derived.Test.YtehdneppleifdaaDoorMGAT
import Derived.Test.YtehdneppleifdaaDoorMGAP
namespace Go.Proofs.YtehdneppleifdaaDoor
open Go.RowKit
theorem st_sg {l : List Int} (hg : grpB l = true) {s : Nat} (hs : s < 2 ^ (prodI l).toNat) : IsSg l (stN l s) := by
  have hO := ords_grp hg
  have hP := hO.prod
  refine ⟨stK_lt _ _ _, (stK_bit _ _ _ _).2 ⟨by omega, movN_zero hg hs⟩, fun x y hx hy => ?_⟩
  obtain ⟨h1, h2⟩ := (stK_bit _ _ _ _).1 hx
  obtain ⟨h3, h4⟩ := (stK_bit _ _ _ _).1 hy
  have hb := addN_in hO (y : Int) (x : Int)
  refine (stK_bit _ _ _ _).2 ⟨by omega, ?_⟩
  rw [← movN_two hg (grp_pow hg hs), h4, h2]
theorem zero_add_bit {l : List Int} (hg : grpB l = true) {a z : Nat} (ha : a < 2 ^ (prodI l).toNat) (hz : a.testBit z = true) : (movN l a 0).testBit z = true := by
  rw [movN_zero hg ha]; exact hz
/-- What fills by a subgroup holds the set. -/
theorem fill_has {l : List Int} (hg : grpB l = true) {a h : Nat} (ha : a < 2 ^ (prodI l).toNat) (hs : IsSg l h) : Part a (sumN l a h) := fun z hz => by
  obtain ⟨y, hy, he⟩ := (movN_bit l (grp_pow hg ha) 0 z).1 (zero_add_bit hg ha hz)
  exact (sumN_bit l (grp_pow hg ha) (grp_pow hg hs.1) z).2 ⟨0, y, hs.2.1, hy, he⟩
theorem fill_st {l : List Int} (hg : grpB l = true) {a : Nat} (ha : a < 2 ^ (prodI l).toNat) : sumN l a (stN l a) = a := by
  have hs := st_sg hg ha
  apply Nat.eq_of_testBit_eq
  intro z
  rw [Bool.eq_iff_iff]
  constructor
  · intro h
    obtain ⟨x, y, hx, hy, he⟩ := (sumN_bit l (grp_pow hg ha) (grp_pow hg hs.1) z).1 h
    have h2 := ((stK_bit _ _ _ _).1 hx).2
    have h3 := (movN_bit l (grp_pow hg ha) x z).2 ⟨y, hy, he⟩
    rwa [h2] at h3
  · exact fill_has hg ha hs z
theorem core_bit (l : List Int) (h a : Nat) (R : List Nat) (z : Nat) : (coreK l h a R).testBit z = true ↔ ∃ y ∈ R, a &&& movN l h y = movN l h y ∧ (movN l h y).testBit z = true := by
  unfold coreK
  rw [orG_bit]
  constructor
  · rintro ⟨y, hy, h1⟩
    rw [List.mem_filter, beq_iff_eq] at hy
    exact ⟨y, hy.1, hy.2, h1⟩
  · rintro ⟨y, hy, h1, h2⟩
    exact ⟨y, by rw [List.mem_filter, beq_iff_eq]; exact ⟨hy, h1⟩, h2⟩
theorem core_part (l : List Int) (h a : Nat) (R : List Nat) : Part (coreK l h a R) a := fun z hz => by
  obtain ⟨y, _, h1, h2⟩ := (core_bit l h a R z).1 hz
  rw [← h1, Nat.testBit_and, Bool.and_eq_true] at h2
  exact h2.1
theorem core_st {l : List Int} (hg : grpB l = true) {a : Nat} (ha : a < 2 ^ (prodI l).toNat) : coreK l (stN l a) a (repsK l (stN l a) (prodI l).toNat) = a := by
  have hs := st_sg hg ha
  have hP := (ords_grp hg).prod
  apply Nat.eq_of_testBit_eq
  intro z
  rw [Bool.eq_iff_iff]
  constructor
  · exact core_part l _ a _ z
  · intro hz
    have hzP := el_of hg ha hz
    have h1 := seen_all hg hs (prodI l).toNat (by omega) z (by omega)
    unfold seenK at h1
    obtain ⟨y, hy, h2⟩ := (orG_bit _ _ _).1 h1
    refine (core_bit l _ a _ z).2 ⟨y, hy, and_part fun w hw => ?_, h2⟩
    have hyP := reps_in (l := l) (h := stN l a) (k := (prodI l).toNat) (by omega) y hy
    rw [coset_same hg hs hyP h2] at hw
    obtain ⟨x, hx, he⟩ := (movN_bit l (grp_pow hg hs.1) z w).1 hw
    have h3 := ((stK_bit _ _ _ _).1 hx).2
    have h4 := (movN_bit l (grp_pow hg ha) x w).2 ⟨z, hz, by rw [addN_comm]; exact he⟩
    rwa [h3] at h4
theorem quo_total {l : List Int} (hg : grpB l = true) {h : Nat} (hs : IsSg l h) (a : Nat) : ∀ k : Nat, (k : Int) ≤ prodI l → (quoK l h a (repsK l h k)).sum = (bitsN (seenK l h k &&& a)).length
  | 0, _ => by
    have e : seenK l h 0 = 0 := rfl
    rw [e, Nat.zero_and]
    rfl
  | k + 1, hk => by
    have ih := quo_total hg hs a k (by omega)
    cases b : (seenK l h k).testBit k with
    | true => rw [seen_yes b, reps_yes b, ih]
    | false =>
      have hap := seen_apart hg hs (by omega) (reps_in (by omega)) b
      have e : (seenK l h k ||| movN l h k) &&& a = (seenK l h k &&& a) ||| (movN l h k &&& a) := Nat.and_or_distrib_right _ _ _
      rw [seen_no b, reps_no b, e, bits_add (fun i ⟨h1, h2⟩ => hap i ⟨by rw [Nat.testBit_and, Bool.and_eq_true] at h1; exact h1.1, by rw [Nat.testBit_and, Bool.and_eq_true] at h2; exact h2.1⟩), ← ih]
      unfold quoK
      rw [List.map_append, List.sum_append]
      simp
theorem quo_all {l : List Int} (hg : grpB l = true) {h a : Nat} (hs : IsSg l h) (ha : a < 2 ^ (prodI l).toNat) : (quoK l h a (repsK l h (prodI l).toNat)).sum = (bitsN a).length := by
  have hP := (ords_grp hg).prod
  rw [quo_total hg hs a _ (by omega), seen_full hg hs]
  congr 2
  rw [Nat.and_comm, Nat.and_two_pow_sub_one_eq_mod, Nat.mod_eq_of_lt ha]
end Go.Proofs.YtehdneppleifdaaDoor

namespace Go.Proofs.YtehdneppleifdaaDoor
open Go.RowKit
theorem per_no {l : List Int} {x : Int} (h : isS l x = false) : stE l x = -1 ∧ perB l x = false := by
  unfold stE perB
  rw [h]
  exact ⟨if_neg (by simp), rfl⟩
theorem bits_dec {t : Nat} (h : t.testBit 0 = true) : (bitsN t).length = (bitsN (t - 1)).length + 1 := by
  have h1 : t % 2 = 1 := by simpa using h
  have e : t = (t - 1) ||| 1 := by
    apply Nat.eq_of_testBit_eq
    intro i
    rw [Nat.testBit_or]
    rcases Nat.eq_zero_or_pos i with h0 | h0
    · subst h0
      simp [h1]
    · obtain ⟨j, rfl⟩ : ∃ j, i = j + 1 := ⟨i - 1, by omega⟩
      have h2 : (t - 1) / 2 = t / 2 := by omega
      rw [Nat.testBit_succ, Nat.testBit_succ, Nat.testBit_succ, h2]
      simp
  have h3 := bits_add (a := t - 1) (b := 1) (fun i ⟨ha, hb⟩ => by
    rcases Nat.eq_zero_or_pos i with h0 | h0
    · subst h0
      have h2 : (t - 1) % 2 = 0 := by omega
      rw [Nat.testBit_zero, h2] at ha
      simp at ha
    · obtain ⟨j, rfl⟩ : ∃ j, i = j + 1 := ⟨i - 1, by omega⟩
      rw [Nat.testBit_succ] at hb
      simp at hb)
  rw [← e] at h3
  rw [h3]
  have h4 : (bitsN 1).length = 1 := by decide
  omega
theorem per_yes {l : List Int} {x : Int} (h : isS l x = true) : 1 ≤ stE l x ∧ stE l x ≤ 16777215 ∧ perB l x = decide (1 < stE l x) ∧ sgB l (stE l x) = true ∧ fillE l (stE l x) x = x ∧ coreE l (stE l x) x = x ∧ cntE l (stE l x) = ((perE l x).length : Int) + 1 ∧ (perE l x).length ≤ 24 := by
  obtain ⟨hg, s, rfl, hs, hs24⟩ := isS_true h
  have e : stE l (s : Int) = ((stN l s : Nat) : Int) := by unfold stE; rw [if_pos h, Int.toNat_natCast]
  have h0 := stN_bit0 hg hs
  have h1 := bit0_pos h0
  have h2 : stN l s < 16777216 := stN_lt24 hg s
  have hsg := st_sg hg hs
  have hss : isS l ((stN l s : Nat) : Int) = true := isS_of hg hsg.1
  have hsb : sgB l ((stN l s : Nat) : Int) = true := (sgB_iff hss).2 hsg
  have hp : perE l (s : Int) = LI (stN l s - 1) := by unfold perE; rw [if_pos h, Int.toNat_natCast]
  rw [e]
  refine ⟨by omega, by omega, ?_, hsb, ?_, ?_, ?_, perE_len l _⟩
  · unfold perB
    rw [h, Int.toNat_natCast, Bool.true_and]
    by_cases hh : 1 < stN l s
    · rw [decide_eq_true hh, decide_eq_true (by omega)]
    · rw [decide_eq_false hh, decide_eq_false (by omega)]
  · unfold fillE
    rw [if_pos ⟨hsb, h⟩, Int.toNat_natCast, Int.toNat_natCast, fill_st hg hs]
  · unfold coreE
    rw [if_pos ⟨hsb, h⟩, Int.toNat_natCast, Int.toNat_natCast, core_st hg hs]
  · unfold cntE
    rw [if_pos hss, Int.toNat_natCast, bits_dec h0, hp, LI_len]
    omega
theorem sum_cast : ∀ L : List Nat, (L.map (fun (x : Nat) => (x : Int))).sum = ((L.sum : Nat) : Int)
  | [] => rfl
  | a :: r => by
    rw [List.map_cons, List.sum_cons, List.sum_cons, sum_cast r]
    omega
theorem quo_yes {l : List Int} {y z : Int} (h : quoB l y z = true) : 0 ≤ fillE l y z ∧ 0 ≤ coreE l y z ∧ bits .and .i64 (coreE l y z) z = coreE l y z ∧ bits .and .i64 (fillE l y z) z = z ∧ (quoE l y z).sum = cntE l z := by
  have h1 : sgB l y = true := by unfold quoB at h; exact (Bool.and_eq_true_iff.1 h).1
  have h2 : isS l z = true := by unfold quoB at h; exact (Bool.and_eq_true_iff.1 h).2
  obtain ⟨hg, y, rfl, hy, hy24⟩ := isS_true (sgB_set h1)
  obtain ⟨_, z, rfl, hz, hz24⟩ := isS_true h2
  have hsg := (sgB_iff (sgB_set h1)).1 h1
  have ef : fillE l (y : Int) (z : Int) = ((sumN l z y : Nat) : Int) := by unfold fillE; rw [if_pos ⟨h1, h2⟩, Int.toNat_natCast, Int.toNat_natCast]
  have ec : coreE l (y : Int) (z : Int) = ((coreK l y z (repsK l y (prodI l).toNat) : Nat) : Int) := by unfold coreE; rw [if_pos ⟨h1, h2⟩, Int.toNat_natCast, Int.toNat_natCast]
  have hs24 : sumN l z y < 16777216 := sumN24 hg z y
  have hc24 : coreK l y z (repsK l y (prodI l).toNat) < 16777216 := core_lt24 hg y z _
  have hz' : z < 16777216 := hz24
  rw [ef, ec]
  refine ⟨by omega, by omega, ?_, ?_, ?_⟩
  · rw [andI _ _ (by omega) (by omega), Nat.and_comm, and_part (core_part l y z _)]
  · rw [andI _ _ (by omega) (by omega), and_part (fill_has hg hz hsg)]
  · unfold quoE cntE
    rw [if_pos h, if_pos h2, Int.toNat_natCast, Int.toNat_natCast, sum_cast, quo_all hg hsg hz]
theorem quoE_bnd {l : List Int} {y z : Int} : ∀ x ∈ quoE l y z, 0 ≤ x ∧ x ≤ 24 := fun x hx => by
  unfold quoE at hx
  split at hx
  · obtain ⟨n, hn, rfl⟩ := List.mem_map.1 hx
    unfold quoK at hn
    obtain ⟨k, _, rfl⟩ := List.mem_map.1 hn
    have := bits_le (movN l y.toNat k &&& z.toNat)
    omega
  · cases hx
end Go.Proofs.YtehdneppleifdaaDoor
