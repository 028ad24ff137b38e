/- Merged: DGrp4 SgAx SgAx2 OrCnt SgAx3. -/
import Derived.Test.YtehdneppleifdaaGreatDoorMGAU
import Derived.Deep.LoopGhost
import Derived.Deep.Draws
import Derived.Deep.QuietTactic
import Derived.Shelf.RegionOpenPlain
import Derived.Test.YtehdneppleifdaaGreatDoorMGAO
import Derived.Test.YtehdneppleifdaaGreatDoorCosSpec
import Derived.Test.YtehdneppleifdaaGreatDoorSubSpec
import Derived.Test.YtehdneppleifdaaGreatDoorGenK
import Derived.Test.YtehdneppleifdaaGreatDoorMGAL
import Derived.Test.YtehdneppleifdaaGreatDoorSumMath
import Derived.Test.YtehdneppleifdaaGreatDoorMGAF
import Derived.Test.YtehdneppleifdaaGreatDoorMGAS
namespace Go.Proofs.YtehdneppleifdaaGreatDoor
open Go.RowKit
set_option maxRecDepth 1000000
theorem big_no (w : World) (a : Option Addr) (len cap : Nat) (h : len ≤ 1048576) :
    Calls Tryz.prog 4 #[.slice a len cap] w fun e w' => e = .returned (.bool false) ∧ w = w' := by
  have h1 : ¬ (1048576 : Int) < (len : Int) := by omega
  go_enter Tryz.func4, Tryz.ntmps4
  go_wp2
  go_ret
  exact ⟨by first | rfl | (simp; done) | (simp; omega), rfl⟩
theorem big_yes (w : World) (a : Option Addr) (len cap : Nat) (h : 1048576 < len) :
    Calls Tryz.prog 4 #[.slice a len cap] w fun e w' => e = .returned (.bool true) ∧ w = w' := by
  have h1 : (1048576 : Int) < (len : Int) := by omega
  go_enter Tryz.func4, Tryz.ntmps4
  go_wp2
  go_ret
  exact ⟨by first | rfl | (simp; done) | (simp; omega), rfl⟩
set_option maxHeartbeats 4000000 in
/-- Two readings of one list are the same. -/
theorem sameInts_same (w : World) (a b : Option Addr) (p : List Int) (n ca cb : Nat) (hn : n = p.length) (hm : n ≤ 1048576) (hi : Ints w a p) (hj : Ints w b p) :
    Calls Tryz.prog 12 #[.slice a n ca, .slice b n cb] w fun e w' => e = .returned (.bool true) ∧ Below w.heap.size w w' := by
  have HI := Lib.hid hi
  have HJ := Lib.hid hj
  have HN := Lib.hid hn
  clear hi hj hn
  have mixed : Tryz.prog.follows .mixedOrders = true := by rfl
  go_enter Tryz.func12, Tryz.ntmps12
  go_wp2
  go_loopw [5] (fun i wr => ∃ k : Nat, i = .int .i64 k ∧ k ≤ n ∧ Below w.heap.size w wr) (fun i _ => n - (intOf i).toNat)
  case atStart => exact ⟨0, rfl, by omega, Below.refl _ _⟩
  case round =>
    obtain ⟨k, rfl, h1, hbel⟩ := hrel
    by_cases hk : k < n
    · have hkl : k < p.length := by have := HN.out; omega
      have HBL := Lib.hid hbel
      have r1 : ∃ ba oa, a = some ⟨ba, oa, none⟩ ∧ ∀ q, (wr.drewN q).cell? ⟨ba, oa + k, none⟩ = some (.int .i64 (p.getD k 0)) := by
        rcases HI.out with h0 | ⟨ba, oa, ha, hbl, hc⟩
        · rw [h0] at hkl; simp at hkl
        · exact ⟨ba, oa, ha, fun q => by simpa using keepC hbel hbl (hc k hkl)⟩
      have r2 : ∃ bb ob, b = some ⟨bb, ob, none⟩ ∧ ∀ q, (wr.drewN q).cell? ⟨bb, ob + k, none⟩ = some (.int .i64 (p.getD k 0)) := by
        rcases HJ.out with h0 | ⟨ba, oa, ha, hbl, hc⟩
        · rw [h0] at hkl; simp at hkl
        · exact ⟨ba, oa, ha, fun q => by simpa using keepC hbel hbl (hc k hkl)⟩
      obtain ⟨ba, oa, rfl, la⟩ := r1
      obtain ⟨bb, ob, rfl, lb⟩ := r2
      obtain ⟨x, hx⟩ : ∃ x, p.getD k 0 = x := ⟨_, rfl⟩
      rw [hx] at la lb
      have ea : ((k : Int)).toNat = k := by omega
      have pa : (0 : Int) ≤ (k : Int) := by omega
      have pb : (k : Int) < (n : Int) := by omega
      clear hx hbel hkl
      go_wp2_with fail
      go_quiet_o (fail)
      clear la lb ea
      go_wp2
      go_roundw
      case rel => exact ⟨k + 1, by go_num, by omega, ⟨HBL.out.os, HBL.out.tape, HBL.out.output, HBL.out.size, HBL.out.block⟩⟩
      case measure => simp [intOf]; omega
    · obtain rfl : k = n := by omega
      have HBL := Lib.hid hbel
      clear hbel
      go_wp2
      go_ret
      exact ⟨rfl, HBL.out⟩
end Go.Proofs.YtehdneppleifdaaGreatDoor

namespace Go.Proofs.YtehdneppleifdaaGreatDoor
open Go.RowKit
theorem sg_and {l : List Int} {s t : Nat} (hs : IsSg l s) (ht : IsSg l t) : IsSg l (s &&& t) := by
  refine ⟨Nat.lt_of_le_of_lt Nat.and_le_left hs.1, ?_, fun x y hx hy => ?_⟩
  · rw [Nat.testBit_and, hs.2.1, ht.2.1]; rfl
  · rw [Nat.testBit_and, Bool.and_eq_true] at hx hy ⊢
    exact ⟨hs.2.2 x y hx.1 hy.1, ht.2.2 x y hx.2 hy.2⟩
theorem upK_add {a b : Nat} (h : ∀ i, ¬ (a.testBit i = true ∧ b.testBit i = true)) : ∀ k, (upK (a ||| b) k).length = (upK a k).length + (upK b k).length
  | 0 => rfl
  | k + 1 => by
    have ih := upK_add h k
    have hk := h k
    rw [upK_succ, upK_succ, upK_succ, Nat.testBit_or]
    cases ha : a.testBit k <;> cases hb : b.testBit k <;> simp_all <;> omega
theorem bits_add {a b : Nat} (h : ∀ i, ¬ (a.testBit i = true ∧ b.testBit i = true)) : (bitsN (a ||| b)).length = (bitsN a).length + (bitsN b).length := upK_add h 24
/-- A coset that is not seen yet meets none that is. -/
theorem seen_apart {l : List Int} (hg : grpB l = true) {h k : Nat} (hs : IsSg l h) (hk : (k : Int) < prodI l) (hR : ∀ y ∈ repsK l h k, (y : Int) < prodI l) (b : (seenK l h k).testBit k = false) :
    ∀ i, ¬ ((seenK l h k).testBit i = true ∧ (movN l h k).testBit i = true) := by
  rintro i ⟨h1, h2⟩
  unfold seenK at h1
  obtain ⟨y, hy, h3⟩ := (orG_bit _ _ _).1 h1
  have e1 := coset_same hg hs (hR y hy) h3
  have e2 := coset_same hg hs hk h2
  have h4 := coset_holds hg hs hk
  rw [e2, ← e1] at h4
  have h5 : (seenK l h k).testBit k = true := by
    unfold seenK
    exact (orG_bit _ _ _).2 ⟨y, hy, h4⟩
  rw [b] at h5
  cases h5
theorem reps_in {l : List Int} {h k : Nat} (hk : (k : Int) ≤ prodI l) : ∀ y ∈ repsK l h k, (y : Int) < prodI l := fun y hy => by
  have := reps_lt l h k y hy
  omega
/-- So many elements are seen. -/
theorem seen_count {l : List Int} (hg : grpB l = true) {h : Nat} (hs : IsSg l h) (hcnt : ∀ y : Nat, (y : Int) < prodI l → (bitsN (movN l h y)).length = (bitsN h).length) : ∀ k : Nat, (k : Int) ≤ prodI l → (bitsN (seenK l h k)).length = (repsK l h k).length * (bitsN h).length
  | 0, _ => by
    have : seenK l h 0 = 0 := rfl
    rw [this]
    have e : (repsK l h 0).length = 0 := rfl
    rw [e, Nat.zero_mul]
    decide
  | k + 1, hk => by
    have ih := seen_count hg hs hcnt k (by omega)
    cases b : (seenK l h k).testBit k with
    | true => rw [seen_yes b, reps_yes b, ih]
    | false =>
      rw [seen_no b, reps_no b, bits_add (seen_apart hg hs (by omega) (reps_in (by omega)) b), ih, hcnt k (by omega), List.length_append, List.length_singleton, Nat.add_mul, Nat.one_mul]
/-- Everything is seen at the end. -/
theorem seen_all {l : List Int} (hg : grpB l = true) {h : Nat} (hs : IsSg l h) : ∀ k : Nat, (k : Int) ≤ prodI l → ∀ i, i < k → (seenK l h k).testBit i = true
  | 0, _, i, hi => by omega
  | k + 1, hk, i, hi => by
    have ih := seen_all hg hs k (by omega)
    by_cases e : i < k
    · cases b : (seenK l h k).testBit k with
      | true => rw [seen_yes b]; exact ih i e
      | false => rw [seen_no b, Nat.testBit_or, ih i e]; rfl
    · obtain rfl : i = k := by omega
      cases b : (seenK l h i).testBit i with
      | true => rw [seen_yes b]; exact b
      | false => rw [seen_no b, Nat.testBit_or, coset_holds hg hs (by omega)]; simp
theorem seen_full {l : List Int} (hg : grpB l = true) {h : Nat} (hs : IsSg l h) : seenK l h (prodI l).toNat = 2 ^ (prodI l).toNat - 1 := by
  have hP := (ords_grp hg).prod
  have hlt : seenK l h (prodI l).toNat < 2 ^ (prodI l).toNat := orG_lt _ _ _ (fun x _ => movN_lt hg h x)
  apply Nat.eq_of_testBit_eq
  intro i
  rw [Nat.testBit_two_pow_sub_one]
  by_cases hi : i < (prodI l).toNat
  · rw [seen_all hg hs _ (by omega) i hi]; simp [hi]
  · rw [Nat.testBit_lt_two_pow (Nat.lt_of_lt_of_le hlt (Nat.pow_le_pow_right (by decide) (by omega)))]; simp [hi]
/-- The cosets' number times the subgroup's size is the order. -/
theorem cos_count {l : List Int} (hg : grpB l = true) {h : Nat} (hs : IsSg l h) (hcnt : ∀ y : Nat, (y : Int) < prodI l → (bitsN (movN l h y)).length = (bitsN h).length) : (repsK l h (prodI l).toNat).length * (bitsN h).length = (prodI l).toNat := by
  have hP := (ords_grp hg).prod
  rw [← seen_count hg hs hcnt (prodI l).toNat (by omega), seen_full hg hs]
  have h1 : ∀ k, k ≤ (prodI l).toNat → (upK (2 ^ (prodI l).toNat - 1) k).length = k := by
    intro k
    induction k with
    | zero => intro _; rfl
    | succ k ih =>
      intro hk
      rw [upK_yes (by rw [Nat.testBit_two_pow_sub_one]; simp; omega), List.length_append, ih (by omega)]; rfl
  rw [← upK_full (k := (prodI l).toNat) (by have := Nat.two_pow_pos (prodI l).toNat; omega) (by omega), h1 _ (Nat.le_refl _)]
end Go.Proofs.YtehdneppleifdaaGreatDoor

namespace Go.Proofs.YtehdneppleifdaaGreatDoor
open Go.RowKit
theorem clo_self {l : List Int} (hg : grpB l = true) {s : Nat} (hs : IsSg l s) : IsClo l s s := by
  obtain ⟨d, hd⟩ := clo_ex hg (grp_pow hg hs.1)
  have := (hd.self hg hs.1).2 hs
  rwa [this] at hd
theorem and_part {n c : Nat} (h : Part n c) : c &&& n = n := by
  apply Nat.eq_of_testBit_eq
  intro z
  rw [Nat.testBit_and]
  cases hz : n.testBit z with
  | false => simp
  | true => rw [h z hz]; rfl
theorem sg_mod {l : List Int} (hg : grpB l = true) {s : Nat} (hs : IsSg l s) (hcnt : ∀ y : Nat, (y : Int) < prodI l → (bitsN (movN l s y)).length = (bitsN s).length) : (prodI l).toNat % (bitsN s).length = 0 := by
  rw [← cos_count hg hs hcnt, Nat.mul_mod_left]
/-- Generated twice. -/
theorem gen_twice {l : List Int} {a r : Int} (h : GenX l a r) (h0 : 0 ≤ r) : ∃ (n c : Nat), a = (n : Int) ∧ r = (c : Int) ∧ grpB l = true ∧ n < 2 ^ (prodI l).toNat ∧ c < 2 ^ (prodI l).toNat ∧ sgB l r = true ∧ c &&& n = n ∧ GenX l r r := by
  cases hs : isS l a with
  | false =>
    have := h.2 hs
    omega
  | true =>
    obtain ⟨c, rfl, hc⟩ := h.1 hs
    obtain ⟨hg, n, rfl, hn, hn24⟩ := isS_true hs
    rw [Int.toNat_natCast] at hc
    have hsg := hc.sg hg
    have hcs := isS_of hg hc.lt
    refine ⟨n, c, rfl, rfl, hg, hn, hc.lt, (sgB_iff hcs).2 hsg, and_part (hc.holds hg hn), fun _ => ⟨c, rfl, ?_⟩, fun h => ?_⟩
    · rw [Int.toNat_natCast]; exact clo_self hg hsg
    · rw [hcs] at h; cases h
/-- The cosets found so far are apart. -/
theorem reps_apart {l : List Int} (hg : grpB l = true) {h : Nat} (hs : IsSg l h) : ∀ k : Nat, (k : Int) ≤ prodI l → (repsK l h k).Pairwise fun y z => ∀ i, ¬ ((movN l h y).testBit i = true ∧ (movN l h z).testBit i = true)
  | 0, _ => List.Pairwise.nil
  | k + 1, hk => by
    have ih := reps_apart hg hs k (by omega)
    cases b : (seenK l h k).testBit k with
    | true => rw [reps_yes b]; exact ih
    | false =>
      rw [reps_no b, List.pairwise_append]
      refine ⟨ih, by simp, fun y hy z hz i ⟨h1, h2⟩ => ?_⟩
      rw [List.mem_singleton] at hz
      subst hz
      exact seen_apart hg hs (by omega) (reps_in (by omega)) b i ⟨by unfold seenK; exact (orG_bit _ _ _).2 ⟨y, hy, h1⟩, h2⟩
/-- A shift of a subgroup is a coset. -/
theorem mov_cos {l : List Int} (hg : grpB l = true) {h y : Nat} (hs : IsSg l h) (hy : (y : Int) < prodI l) : cosB l ((movN l h y : Nat) : Int) = true := by
  have hO := ords_grp hg
  have hlt := movN_lt hg h y
  have h0 : movN l h y ≠ 0 := fun e => by
    have := coset_holds hg hs hy
    rw [e, Nat.zero_testBit] at this
    cases this
  obtain ⟨k24, hk, _⟩ := low_is (grp_pow hg hlt) h0
  obtain ⟨k, ek⟩ : ∃ k, lowN (movN l h y) = k := ⟨_, rfl⟩
  rw [ek] at k24 hk
  have hkP := el_of hg hlt hk
  have hb := negN_in hO (k : Int)
  obtain ⟨u, hu⟩ := Int.eq_ofNat_of_zero_le hb.1
  have e1 := coset_same hg hs hy hk
  have e2 : movN l (movN l h y) u = h := by
    rw [e1, movN_two hg (grp_pow hg hs.1), ← hu, addN_neg hO]
    exact movN_zero hg hs.1
  unfold cosB
  rw [isS_of hg hlt, Int.toNat_natCast, ek, hu, Int.toNat_natCast, e2, (sgB_iff (isS_of hg hs.1)).2 hs]
  have hp : decide ((0 : Int) < ((movN l h y : Nat) : Int)) = true := by simp; omega
  rw [hp]; rfl
/-- The hull is a coset that holds the set. -/
theorem hull_cos {l : List Int} {s r : Int} (h : HullX l s r) (h0 : 0 ≤ r) : ∃ (n c : Nat), s = (n : Int) ∧ r = (c : Int) ∧ grpB l = true ∧ n < 2 ^ (prodI l).toNat ∧ c < 2 ^ (prodI l).toNat ∧ cosB l r = true ∧ c &&& n = n := by
  by_cases hc : isS l s = true ∧ s ≠ 0
  · obtain ⟨hs, hne⟩ := hc
    obtain ⟨c, hclo, rfl⟩ := h.1 hs hne
    obtain ⟨hg, n, rfl, hn, hn24⟩ := isS_true hs
    rw [Int.toNat_natCast] at hclo ⊢
    have hO := ords_grp hg
    obtain ⟨k24, hk, _⟩ := low_is hn24 (fun e => hne (by omega))
    obtain ⟨k, ek⟩ : ∃ k, lowN n = k := ⟨_, rfl⟩
    rw [ek] at k24 hk hclo ⊢
    have hkP := el_of hg hn hk
    have hb := negN_in hO (k : Int)
    obtain ⟨u, hu⟩ := Int.eq_ofNat_of_zero_le hb.1
    rw [hu, Int.toNat_natCast] at hclo
    have hsg := hclo.sg hg
    refine ⟨n, movN l c k, rfl, rfl, hg, hn, movN_lt hg c k, mov_cos hg hsg hkP, and_part ?_⟩
    have hpt := hclo.holds hg (movN_lt hg n u)
    have hback := shift_back hg hn hu
    intro z hz
    rw [← hback] at hz
    obtain ⟨y, hy, he⟩ := (movN_bit l (grp_pow hg (movN_lt hg n u)) k z).1 hz
    exact (movN_bit l (grp_pow hg hclo.lt) k z).2 ⟨y, hpt y hy, he⟩
  · have := h.2 (by
      cases hs : isS l s with
      | false => exact .inl rfl
      | true => exact .inr (Classical.not_not.1 fun e => hc ⟨hs, e⟩))
    omega
end Go.Proofs.YtehdneppleifdaaGreatDoor

namespace Go.Proofs.YtehdneppleifdaaGreatDoor
/-- Moved by f, which can be undone: as many elements. -/
theorem orF_count2 {l : List Int} {m : Nat} (hs : isS l (m : Int) = true) (f g : Nat → Int) (hf : ∀ x, 0 ≤ f x ∧ f x < prodI l) (hgf : ∀ x : Nat, (x : Int) < prodI l → g (f x).toNat = (x : Int)) : (bitsN (orF f (bitsN m))).length = (bitsN m).length := by
  obtain ⟨hg, m', e, hm, h24⟩ := isS_true hs
  obtain rfl : m = m' := by omega
  have hp := (ords_grp hg).prod
  have hx : ∀ x ∈ bitsN m, (x : Int) < prodI l := fun x hx => by
    have hb := (upK_mem hx).2
    rcases Nat.lt_or_ge x (prodI l).toNat with h | h
    · omega
    · rw [bit_no hm x h] at hb; cases hb
  have hlt : orF f (bitsN m) < 2 ^ 24 := Nat.lt_of_lt_of_le (orF_lt f (bitsN m) (prodI l).toNat (fun x _ => by have := hf x; omega)) (Nat.pow_le_pow_right (by decide) (by have := (grpB_true hg).2.2; omega))
  apply Nat.le_antisymm
  · have := len_le_of_sub (bitsN (orF f (bitsN m))) ((bitsN m).map fun x => (f x).toNat) (bits_nodup _) (fun y hy => by
      rw [mem_bits hlt, orF_bit] at hy
      obtain ⟨x, hxm, rfl⟩ := hy
      exact List.mem_map_of_mem hxm)
    simpa using this
  · have := len_le_of_sub ((bitsN m)) ((bitsN (orF f (bitsN m))).map fun y => (g y).toNat) (bits_nodup _) (fun x hxm => by
      rw [List.mem_map]
      refine ⟨(f x).toNat, ?_, ?_⟩
      · rw [mem_bits hlt, orF_bit]; exact ⟨x, hxm, rfl⟩
      · rw [hgf x (hx x hxm)]; omega)
    simpa using this
/-- A shift keeps a set's size. -/
theorem mov_cnt {l : List Int} (hg : grpB l = true) {h : Nat} (hs : h < 2 ^ (prodI l).toNat) (y : Nat) : (bitsN (movN l h y)).length = (bitsN h).length := by
  have ho := ords_grp hg
  exact orF_count2 (isS_of hg hs) (fun x => addN l (x : Int) (y : Int)) (fun z => addN l (z : Int) (negN l (y : Int))) (fun x => addN_in ho x y) (fun x hx => by
    have := addN_in ho (x : Int) (y : Int)
    show addN l (((addN l (x : Int) (y : Int)).toNat : Nat) : Int) (negN l (y : Int)) = x
    rw [Int.toNat_of_nonneg this.1, add_neg_back ho (y : Int) (by omega) hx])
end Go.Proofs.YtehdneppleifdaaGreatDoor

namespace Go.Proofs.YtehdneppleifdaaGreatDoor
open Go.RowKit
theorem el_in {l : List Int} (hg : grpB l = true) {x : Int} (h0 : 0 ≤ x) (h1 : x < prodI l) : isE l x = true := by
  simp only [isE, ordN_grp hg, Bool.and_eq_true, decide_eq_true_eq]
  exact ⟨h0, h1⟩
theorem gen_neg {l : List Int} {a r : Int} (h : GenX l a r) (h0 : ¬ 0 ≤ r) : r = -1 := by
  cases e : isS l a with
  | false => exact h.2 e
  | true =>
    obtain ⟨c, rfl, _⟩ := h.1 e
    omega
theorem gen_pos {l : List Int} {a r : Int} (h : GenX l a r) (h0 : 0 ≤ r) : sgB l r = true ∧ bits .and .i64 r a = a ∧ GenX l r r := by
  obtain ⟨n, c, rfl, rfl, hg, hn, hc, h1, h2, h3⟩ := gen_twice h h0
  have hn24 := grp_pow hg hn
  have hc24 := grp_pow hg hc
  have hn' : n < 16777216 := hn24
  have hc' : c < 16777216 := hc24
  exact ⟨h1, by rw [andI _ _ (by omega) (by omega), h2], h3⟩
theorem hul_neg {l : List Int} {a r : Int} (h : HullX l a r) (h0 : ¬ 0 ≤ r) : r = -1 := by
  by_cases e : isS l a = false ∨ a = 0
  · exact h.2 e
  · have e1 : isS l a = true := by
      cases hs : isS l a with
      | true => rfl
      | false => exact absurd (.inl hs) e
    obtain ⟨c, _, rfl⟩ := h.1 e1 (fun h2 => e (.inr h2))
    omega
theorem hul_pos {l : List Int} {a r : Int} (h : HullX l a r) (h0 : 0 ≤ r) : cosB l r = true ∧ bits .and .i64 r a = a := by
  obtain ⟨n, c, rfl, rfl, hg, hn, hc, h1, h2⟩ := hull_cos h h0
  have hn' : n < 16777216 := grp_pow hg hn
  have hc' : c < 16777216 := grp_pow hg hc
  exact ⟨h1, by rw [andI _ _ (by omega) (by omega), h2]⟩
/-- What is so of each of the subgroups. -/
theorem sgs_at {l : List Int} {L : List Nat} (hL : SgList l L) {i : Nat} (hi : i < L.length) : grpB l = true ∧ sgB l ((L.getD i 0 : Nat) : Int) = true ∧ L.getD i 0 < 16777216 ∧ ∃ c o : Nat, cntE l ((L.getD i 0 : Nat) : Int) = (c : Int) ∧ ordN l = (o : Int) ∧ 0 < c ∧ c ≤ 24 ∧ o ≤ 24 ∧ o % c = 0 := by
  obtain ⟨hg, hs⟩ := (hL.2 _).1 (getD_mem hi)
  obtain ⟨s, e⟩ : ∃ s, L.getD i 0 = s := ⟨_, rfl⟩
  rw [e] at hs ⊢
  have hss : isS l (s : Int) = true := isS_of hg hs.1
  have h24 := grp_pow hg hs.1
  have hm := sg_mod hg hs (fun y _ => mov_cnt hg hs.1 y)
  have hpos : 0 < (bitsN s).length := List.length_pos_of_mem ((mem_bits h24 0).2 hs.2.1)
  have hle := bits_le s
  have hP := (ords_grp hg).prod
  refine ⟨hg, (sgB_iff hss).2 hs, h24, (bitsN s).length, (prodI l).toNat, ?_, ?_, hpos, hle, by omega, hm⟩
  · unfold cntE
    rw [if_pos hss, Int.toNat_natCast]
  · rw [ordN_grp hg]; omega
theorem sgs_meet {l : List Int} {L : List Nat} (hL : SgList l L) {i k : Nat} (hi : i < L.length) (hk : k < L.length) : ∃ j, j < L.length ∧ L.getD j 0 = L.getD i 0 &&& L.getD k 0 := by
  obtain ⟨hg, h1⟩ := (hL.2 _).1 (getD_mem hi)
  obtain ⟨_, h2⟩ := (hL.2 _).1 (getD_mem hk)
  exact mem_getD ((hL.2 _).2 ⟨hg, sg_and h1 h2⟩)
/-- Whether v is among the first j. -/
def hitM (L : List Nat) (v j : Nat) : Bool := (L.take j).any fun x => x == v
theorem take_at2 {R : List Nat} {k : Nat} (h : k < R.length) : R.take (k + 1) = R.take k ++ [R.getD k 0] := by
  rw [List.take_add_one, List.getElem?_eq_getElem h]
  simp [List.getD, List.getElem?_eq_getElem h]
theorem hitM_next {L : List Nat} {v j : Nat} (h : j < L.length) : hitM L v (j + 1) = (hitM L v j || (L.getD j 0 == v)) := by
  unfold hitM
  rw [take_at2 h, List.any_append]
  simp
theorem hitM_all {L : List Nat} {v j : Nat} (h : j < L.length) (e : L.getD j 0 = v) : hitM L v L.length = true := by
  unfold hitM
  rw [List.take_length, List.any_eq_true]
  exact ⟨_, getD_mem h, by simpa using e⟩
/-- The union of the first k cosets. -/
def allK (l : List Int) (h : Nat) (R : List Nat) (k : Nat) : Nat := orG (fun y => movN l h y) (R.take k)
theorem cos_at {l : List Int} (hg : grpB l = true) {h : Nat} (hs : IsSg l h) {k : Nat} (hk : k < (repsK l h (prodI l).toNat).length) :
    (movN l h ((repsK l h (prodI l).toNat).getD k 0)) &&& allK l h (repsK l h (prodI l).toNat) k = 0 ∧ cosB l ((movN l h ((repsK l h (prodI l).toNat).getD k 0) : Nat) : Int) = true ∧
      movN l h ((repsK l h (prodI l).toNat).getD k 0) < 16777216 ∧ allK l h (repsK l h (prodI l).toNat) k < 16777216 ∧
      allK l h (repsK l h (prodI l).toNat) (k + 1) = allK l h (repsK l h (prodI l).toNat) k ||| movN l h ((repsK l h (prodI l).toNat).getD k 0) := by
  have hP := (ords_grp hg).prod
  have hap := reps_apart hg hs (prodI l).toNat (by omega)
  have hin := reps_in (l := l) (h := h) (k := (prodI l).toNat) (by omega)
  obtain ⟨R, hR⟩ : ∃ R, repsK l h (prodI l).toNat = R := ⟨_, rfl⟩
  rw [hR] at hk hap hin ⊢
  refine ⟨?_, mov_cos hg hs (hin _ (getD_mem hk)), movN_lt24 hg h _, grp_pow hg (orG_lt _ _ _ (fun x _ => movN_lt hg h x)), ?_⟩
  · apply Nat.eq_of_testBit_eq
    intro z
    rw [Nat.testBit_and, Nat.zero_testBit]
    cases hb : (movN l h (R.getD k 0)).testBit z with
    | false => rfl
    | true =>
      rw [Bool.true_and]
      cases ha : (allK l h R k).testBit z with
      | false => rfl
      | true =>
        exfalso
        obtain ⟨y, hy, hyb⟩ := (orG_bit _ _ _).1 ha
        obtain ⟨j, hj, e⟩ := List.getElem_of_mem hy
        rw [List.length_take] at hj
        rw [List.getElem_take] at e
        have h1 := (List.pairwise_iff_getElem.1 hap) j k (by omega) hk (by omega) z
        have e2 : R[k] = R.getD k 0 := by simp [List.getD, hk]
        rw [e, e2] at h1
        exact h1 ⟨hyb, hb⟩
  · unfold allK
    rw [take_at2 hk, orG_snoc]
theorem cos_end {l : List Int} (hg : grpB l = true) {h : Nat} (hs : IsSg l h) :
    ((allK l h (repsK l h (prodI l).toNat) (repsK l h (prodI l).toNat).length : Nat) : Int) = fullE l ∧ ∃ c o : Nat, cntE l (h : Int) = (c : Int) ∧ ordN l = (o : Int) ∧ c ≤ 24 ∧ o ≤ 24 ∧ (repsK l h (prodI l).toNat).length * c = o ∧ (repsK l h (prodI l).toNat).length ≤ 24 := by
  have hP := (ords_grp hg).prod
  have hss : isS l (h : Int) = true := isS_of hg hs.1
  refine ⟨?_, (bitsN h).length, (prodI l).toNat, ?_, ?_, bits_le h, by omega, cos_count hg hs (fun y _ => mov_cnt hg hs.1 y), ?_⟩
  · unfold allK fullE
    rw [List.take_length, if_pos hg, fullN_nat]
    have := seen_full hg hs
    unfold seenK at this
    rw [this]
    have := Nat.two_pow_pos (prodI l).toNat
    omega
  · unfold cntE
    rw [if_pos hss, Int.toNat_natCast]
  · rw [ordN_grp hg]; omega
  · have := reps_len l h (prodI l).toNat
    omega
end Go.Proofs.YtehdneppleifdaaGreatDoor
