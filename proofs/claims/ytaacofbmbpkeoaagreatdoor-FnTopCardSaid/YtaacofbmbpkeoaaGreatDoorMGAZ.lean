/- Merged: SgAx SgAx2 PerMath KnTopAx. -/
import Derived.Test.YtaacofbmbpkeoaaGreatDoorSgMath
import Derived.Test.YtaacofbmbpkeoaaGreatDoorMGAP
import Derived.Test.YtaacofbmbpkeoaaGreatDoorMGAO
import Derived.Test.YtaacofbmbpkeoaaGreatDoorMGAY
import Derived.Test.YtaacofbmbpkeoaaGreatDoorMGAK
namespace Go.Proofs.YtaacofbmbpkeoaaGreatDoor
open Go.RowKit
theorem sg_and {l : List Int} {s t : Nat} (hs : IsSg l s) (ht : IsSg l t) : IsSg l (s &&& t) := by
  refine ⟨Nat.lt_of_le_of_lt Nat.and_le_left hs.1, ?_, fun x y hx hy => ?_⟩
  · rw [Nat.testBit_and, hs.2.1, ht.2.1]; rfl
  · rw [Nat.testBit_and, Bool.and_eq_true] at hx hy ⊢
    exact ⟨hs.2.2 x y hx.1 hy.1, ht.2.2 x y hx.2 hy.2⟩
theorem upK_add {a b : Nat} (h : ∀ i, ¬ (a.testBit i = true ∧ b.testBit i = true)) : ∀ k, (upK (a ||| b) k).length = (upK a k).length + (upK b k).length
  | 0 => rfl
  | k + 1 => by
    have ih := upK_add h k
    have hk := h k
    rw [upK_succ, upK_succ, upK_succ, Nat.testBit_or]
    cases ha : a.testBit k <;> cases hb : b.testBit k <;> simp_all <;> omega
theorem bits_add {a b : Nat} (h : ∀ i, ¬ (a.testBit i = true ∧ b.testBit i = true)) : (bitsN (a ||| b)).length = (bitsN a).length + (bitsN b).length := upK_add h 24
/-- A coset that is not seen yet meets none that is. -/
theorem seen_apart {l : List Int} (hg : grpB l = true) {h k : Nat} (hs : IsSg l h) (hk : (k : Int) < prodI l) (hR : ∀ y ∈ repsK l h k, (y : Int) < prodI l) (b : (seenK l h k).testBit k = false) :
    ∀ i, ¬ ((seenK l h k).testBit i = true ∧ (movN l h k).testBit i = true) := by
  rintro i ⟨h1, h2⟩
  unfold seenK at h1
  obtain ⟨y, hy, h3⟩ := (orG_bit _ _ _).1 h1
  have e1 := coset_same hg hs (hR y hy) h3
  have e2 := coset_same hg hs hk h2
  have h4 := coset_holds hg hs hk
  rw [e2, ← e1] at h4
  have h5 : (seenK l h k).testBit k = true := by
    unfold seenK
    exact (orG_bit _ _ _).2 ⟨y, hy, h4⟩
  rw [b] at h5
  cases h5
theorem reps_in {l : List Int} {h k : Nat} (hk : (k : Int) ≤ prodI l) : ∀ y ∈ repsK l h k, (y : Int) < prodI l := fun y hy => by
  have := reps_lt l h k y hy
  omega
/-- So many elements are seen. -/
theorem seen_count {l : List Int} (hg : grpB l = true) {h : Nat} (hs : IsSg l h) (hcnt : ∀ y : Nat, (y : Int) < prodI l → (bitsN (movN l h y)).length = (bitsN h).length) : ∀ k : Nat, (k : Int) ≤ prodI l → (bitsN (seenK l h k)).length = (repsK l h k).length * (bitsN h).length
  | 0, _ => by
    have : seenK l h 0 = 0 := rfl
    rw [this]
    have e : (repsK l h 0).length = 0 := rfl
    rw [e, Nat.zero_mul]
    decide
  | k + 1, hk => by
    have ih := seen_count hg hs hcnt k (by omega)
    cases b : (seenK l h k).testBit k with
    | true => rw [seen_yes b, reps_yes b, ih]
    | false =>
      rw [seen_no b, reps_no b, bits_add (seen_apart hg hs (by omega) (reps_in (by omega)) b), ih, hcnt k (by omega), List.length_append, List.length_singleton, Nat.add_mul, Nat.one_mul]
/-- Everything is seen at the end. -/
theorem seen_all {l : List Int} (hg : grpB l = true) {h : Nat} (hs : IsSg l h) : ∀ k : Nat, (k : Int) ≤ prodI l → ∀ i, i < k → (seenK l h k).testBit i = true
  | 0, _, i, hi => by omega
  | k + 1, hk, i, hi => by
    have ih := seen_all hg hs k (by omega)
    by_cases e : i < k
    · cases b : (seenK l h k).testBit k with
      | true => rw [seen_yes b]; exact ih i e
      | false => rw [seen_no b, Nat.testBit_or, ih i e]; rfl
    · obtain rfl : i = k := by omega
      cases b : (seenK l h i).testBit i with
      | true => rw [seen_yes b]; exact b
      | false => rw [seen_no b, Nat.testBit_or, coset_holds hg hs (by omega)]; simp
theorem seen_full {l : List Int} (hg : grpB l = true) {h : Nat} (hs : IsSg l h) : seenK l h (prodI l).toNat = 2 ^ (prodI l).toNat - 1 := by
  have hP := (ords_grp hg).prod
  have hlt : seenK l h (prodI l).toNat < 2 ^ (prodI l).toNat := orG_lt _ _ _ (fun x _ => movN_lt hg h x)
  apply Nat.eq_of_testBit_eq
  intro i
  rw [Nat.testBit_two_pow_sub_one]
  by_cases hi : i < (prodI l).toNat
  · rw [seen_all hg hs _ (by omega) i hi]; simp [hi]
  · rw [Nat.testBit_lt_two_pow (Nat.lt_of_lt_of_le hlt (Nat.pow_le_pow_right (by decide) (by omega)))]; simp [hi]
/-- The cosets' number times the subgroup's size is the order. -/
theorem cos_count {l : List Int} (hg : grpB l = true) {h : Nat} (hs : IsSg l h) (hcnt : ∀ y : Nat, (y : Int) < prodI l → (bitsN (movN l h y)).length = (bitsN h).length) : (repsK l h (prodI l).toNat).length * (bitsN h).length = (prodI l).toNat := by
  have hP := (ords_grp hg).prod
  rw [← seen_count hg hs hcnt (prodI l).toNat (by omega), seen_full hg hs]
  have h1 : ∀ k, k ≤ (prodI l).toNat → (upK (2 ^ (prodI l).toNat - 1) k).length = k := by
    intro k
    induction k with
    | zero => intro _; rfl
    | succ k ih =>
      intro hk
      rw [upK_yes (by rw [Nat.testBit_two_pow_sub_one]; simp; omega), List.length_append, ih (by omega)]; rfl
  rw [← upK_full (k := (prodI l).toNat) (by have := Nat.two_pow_pos (prodI l).toNat; omega) (by omega), h1 _ (Nat.le_refl _)]
end Go.Proofs.YtaacofbmbpkeoaaGreatDoor

namespace Go.Proofs.YtaacofbmbpkeoaaGreatDoor
open Go.RowKit
theorem clo_self {l : List Int} (hg : grpB l = true) {s : Nat} (hs : IsSg l s) : IsClo l s s := by
  obtain ⟨d, hd⟩ := clo_ex hg (grp_pow hg hs.1)
  have := (hd.self hg hs.1).2 hs
  rwa [this] at hd
theorem and_part {n c : Nat} (h : Part n c) : c &&& n = n := by
  apply Nat.eq_of_testBit_eq
  intro z
  rw [Nat.testBit_and]
  cases hz : n.testBit z with
  | false => simp
  | true => rw [h z hz]; rfl
theorem sg_mod {l : List Int} (hg : grpB l = true) {s : Nat} (hs : IsSg l s) (hcnt : ∀ y : Nat, (y : Int) < prodI l → (bitsN (movN l s y)).length = (bitsN s).length) : (prodI l).toNat % (bitsN s).length = 0 := by
  rw [← cos_count hg hs hcnt, Nat.mul_mod_left]
/-- Generated twice. -/
theorem gen_twice {l : List Int} {a r : Int} (h : GenX l a r) (h0 : 0 ≤ r) : ∃ (n c : Nat), a = (n : Int) ∧ r = (c : Int) ∧ grpB l = true ∧ n < 2 ^ (prodI l).toNat ∧ c < 2 ^ (prodI l).toNat ∧ sgB l r = true ∧ c &&& n = n ∧ GenX l r r := by
  cases hs : isS l a with
  | false =>
    have := h.2 hs
    omega
  | true =>
    obtain ⟨c, rfl, hc⟩ := h.1 hs
    obtain ⟨hg, n, rfl, hn, hn24⟩ := isS_true hs
    rw [Int.toNat_natCast] at hc
    have hsg := hc.sg hg
    have hcs := isS_of hg hc.lt
    refine ⟨n, c, rfl, rfl, hg, hn, hc.lt, (sgB_iff hcs).2 hsg, and_part (hc.holds hg hn), fun _ => ⟨c, rfl, ?_⟩, fun h => ?_⟩
    · rw [Int.toNat_natCast]; exact clo_self hg hsg
    · rw [hcs] at h; cases h
/-- The cosets found so far are apart. -/
theorem reps_apart {l : List Int} (hg : grpB l = true) {h : Nat} (hs : IsSg l h) : ∀ k : Nat, (k : Int) ≤ prodI l → (repsK l h k).Pairwise fun y z => ∀ i, ¬ ((movN l h y).testBit i = true ∧ (movN l h z).testBit i = true)
  | 0, _ => List.Pairwise.nil
  | k + 1, hk => by
    have ih := reps_apart hg hs k (by omega)
    cases b : (seenK l h k).testBit k with
    | true => rw [reps_yes b]; exact ih
    | false =>
      rw [reps_no b, List.pairwise_append]
      refine ⟨ih, by simp, fun y hy z hz i ⟨h1, h2⟩ => ?_⟩
      rw [List.mem_singleton] at hz
      subst hz
      exact seen_apart hg hs (by omega) (reps_in (by omega)) b i ⟨by unfold seenK; exact (orG_bit _ _ _).2 ⟨y, hy, h1⟩, h2⟩
/-- A shift of a subgroup is a coset. -/
theorem mov_cos {l : List Int} (hg : grpB l = true) {h y : Nat} (hs : IsSg l h) (hy : (y : Int) < prodI l) : cosB l ((movN l h y : Nat) : Int) = true := by
  have hO := ords_grp hg
  have hlt := movN_lt hg h y
  have h0 : movN l h y ≠ 0 := fun e => by
    have := coset_holds hg hs hy
    rw [e, Nat.zero_testBit] at this
    cases this
  obtain ⟨k24, hk, _⟩ := low_is (grp_pow hg hlt) h0
  obtain ⟨k, ek⟩ : ∃ k, lowN (movN l h y) = k := ⟨_, rfl⟩
  rw [ek] at k24 hk
  have hkP := el_of hg hlt hk
  have hb := negN_in hO (k : Int)
  obtain ⟨u, hu⟩ := Int.eq_ofNat_of_zero_le hb.1
  have e1 := coset_same hg hs hy hk
  have e2 : movN l (movN l h y) u = h := by
    rw [e1, movN_two hg (grp_pow hg hs.1), ← hu, addN_neg hO]
    exact movN_zero hg hs.1
  unfold cosB
  rw [isS_of hg hlt, Int.toNat_natCast, ek, hu, Int.toNat_natCast, e2, (sgB_iff (isS_of hg hs.1)).2 hs]
  have hp : decide ((0 : Int) < ((movN l h y : Nat) : Int)) = true := by simp; omega
  rw [hp]; rfl
/-- The hull is a coset that holds the set. -/
theorem hull_cos {l : List Int} {s r : Int} (h : HullX l s r) (h0 : 0 ≤ r) : ∃ (n c : Nat), s = (n : Int) ∧ r = (c : Int) ∧ grpB l = true ∧ n < 2 ^ (prodI l).toNat ∧ c < 2 ^ (prodI l).toNat ∧ cosB l r = true ∧ c &&& n = n := by
  by_cases hc : isS l s = true ∧ s ≠ 0
  · obtain ⟨hs, hne⟩ := hc
    obtain ⟨c, hclo, rfl⟩ := h.1 hs hne
    obtain ⟨hg, n, rfl, hn, hn24⟩ := isS_true hs
    rw [Int.toNat_natCast] at hclo ⊢
    have hO := ords_grp hg
    obtain ⟨k24, hk, _⟩ := low_is hn24 (fun e => hne (by omega))
    obtain ⟨k, ek⟩ : ∃ k, lowN n = k := ⟨_, rfl⟩
    rw [ek] at k24 hk hclo ⊢
    have hkP := el_of hg hn hk
    have hb := negN_in hO (k : Int)
    obtain ⟨u, hu⟩ := Int.eq_ofNat_of_zero_le hb.1
    rw [hu, Int.toNat_natCast] at hclo
    have hsg := hclo.sg hg
    refine ⟨n, movN l c k, rfl, rfl, hg, hn, movN_lt hg c k, mov_cos hg hsg hkP, and_part ?_⟩
    have hpt := hclo.holds hg (movN_lt hg n u)
    have hback := shift_back hg hn hu
    intro z hz
    rw [← hback] at hz
    obtain ⟨y, hy, he⟩ := (movN_bit l (grp_pow hg (movN_lt hg n u)) k z).1 hz
    exact (movN_bit l (grp_pow hg hclo.lt) k z).2 ⟨y, hpt y hy, he⟩
  · have := h.2 (by
      cases hs : isS l s with
      | false => exact .inl rfl
      | true => exact .inr (Classical.not_not.1 fun e => hc ⟨hs, e⟩))
    omega
end Go.Proofs.YtaacofbmbpkeoaaGreatDoor

namespace Go.Proofs.YtaacofbmbpkeoaaGreatDoor
open Go.RowKit
theorem st_sg {l : List Int} (hg : grpB l = true) {s : Nat} (hs : s < 2 ^ (prodI l).toNat) : IsSg l (stN l s) := by
  have hO := ords_grp hg
  have hP := hO.prod
  refine ⟨stK_lt _ _ _, (stK_bit _ _ _ _).2 ⟨by omega, movN_zero hg hs⟩, fun x y hx hy => ?_⟩
  obtain ⟨h1, h2⟩ := (stK_bit _ _ _ _).1 hx
  obtain ⟨h3, h4⟩ := (stK_bit _ _ _ _).1 hy
  have hb := addN_in hO (y : Int) (x : Int)
  refine (stK_bit _ _ _ _).2 ⟨by omega, ?_⟩
  rw [← movN_two hg (grp_pow hg hs), h4, h2]
theorem zero_add_bit {l : List Int} (hg : grpB l = true) {a z : Nat} (ha : a < 2 ^ (prodI l).toNat) (hz : a.testBit z = true) : (movN l a 0).testBit z = true := by
  rw [movN_zero hg ha]; exact hz
/-- What fills by a subgroup holds the set. -/
theorem fill_has {l : List Int} (hg : grpB l = true) {a h : Nat} (ha : a < 2 ^ (prodI l).toNat) (hs : IsSg l h) : Part a (sumN l a h) := fun z hz => by
  obtain ⟨y, hy, he⟩ := (movN_bit l (grp_pow hg ha) 0 z).1 (zero_add_bit hg ha hz)
  exact (sumN_bit l (grp_pow hg ha) (grp_pow hg hs.1) z).2 ⟨0, y, hs.2.1, hy, he⟩
theorem fill_st {l : List Int} (hg : grpB l = true) {a : Nat} (ha : a < 2 ^ (prodI l).toNat) : sumN l a (stN l a) = a := by
  have hs := st_sg hg ha
  apply Nat.eq_of_testBit_eq
  intro z
  rw [Bool.eq_iff_iff]
  constructor
  · intro h
    obtain ⟨x, y, hx, hy, he⟩ := (sumN_bit l (grp_pow hg ha) (grp_pow hg hs.1) z).1 h
    have h2 := ((stK_bit _ _ _ _).1 hx).2
    have h3 := (movN_bit l (grp_pow hg ha) x z).2 ⟨y, hy, he⟩
    rwa [h2] at h3
  · exact fill_has hg ha hs z
theorem core_bit (l : List Int) (h a : Nat) (R : List Nat) (z : Nat) : (coreK l h a R).testBit z = true ↔ ∃ y ∈ R, a &&& movN l h y = movN l h y ∧ (movN l h y).testBit z = true := by
  unfold coreK
  rw [orG_bit]
  constructor
  · rintro ⟨y, hy, h1⟩
    rw [List.mem_filter, beq_iff_eq] at hy
    exact ⟨y, hy.1, hy.2, h1⟩
  · rintro ⟨y, hy, h1, h2⟩
    exact ⟨y, by rw [List.mem_filter, beq_iff_eq]; exact ⟨hy, h1⟩, h2⟩
theorem core_part (l : List Int) (h a : Nat) (R : List Nat) : Part (coreK l h a R) a := fun z hz => by
  obtain ⟨y, _, h1, h2⟩ := (core_bit l h a R z).1 hz
  rw [← h1, Nat.testBit_and, Bool.and_eq_true] at h2
  exact h2.1
theorem core_st {l : List Int} (hg : grpB l = true) {a : Nat} (ha : a < 2 ^ (prodI l).toNat) : coreK l (stN l a) a (repsK l (stN l a) (prodI l).toNat) = a := by
  have hs := st_sg hg ha
  have hP := (ords_grp hg).prod
  apply Nat.eq_of_testBit_eq
  intro z
  rw [Bool.eq_iff_iff]
  constructor
  · exact core_part l _ a _ z
  · intro hz
    have hzP := el_of hg ha hz
    have h1 := seen_all hg hs (prodI l).toNat (by omega) z (by omega)
    unfold seenK at h1
    obtain ⟨y, hy, h2⟩ := (orG_bit _ _ _).1 h1
    refine (core_bit l _ a _ z).2 ⟨y, hy, and_part fun w hw => ?_, h2⟩
    have hyP := reps_in (l := l) (h := stN l a) (k := (prodI l).toNat) (by omega) y hy
    rw [coset_same hg hs hyP h2] at hw
    obtain ⟨x, hx, he⟩ := (movN_bit l (grp_pow hg hs.1) z w).1 hw
    have h3 := ((stK_bit _ _ _ _).1 hx).2
    have h4 := (movN_bit l (grp_pow hg ha) x w).2 ⟨z, hz, by rw [addN_comm]; exact he⟩
    rwa [h3] at h4
theorem quo_total {l : List Int} (hg : grpB l = true) {h : Nat} (hs : IsSg l h) (a : Nat) : ∀ k : Nat, (k : Int) ≤ prodI l → (quoK l h a (repsK l h k)).sum = (bitsN (seenK l h k &&& a)).length
  | 0, _ => by
    have e : seenK l h 0 = 0 := rfl
    rw [e, Nat.zero_and]
    rfl
  | k + 1, hk => by
    have ih := quo_total hg hs a k (by omega)
    cases b : (seenK l h k).testBit k with
    | true => rw [seen_yes b, reps_yes b, ih]
    | false =>
      have hap := seen_apart hg hs (by omega) (reps_in (by omega)) b
      have e : (seenK l h k ||| movN l h k) &&& a = (seenK l h k &&& a) ||| (movN l h k &&& a) := Nat.and_or_distrib_right _ _ _
      rw [seen_no b, reps_no b, e, bits_add (fun i ⟨h1, h2⟩ => hap i ⟨by rw [Nat.testBit_and, Bool.and_eq_true] at h1; exact h1.1, by rw [Nat.testBit_and, Bool.and_eq_true] at h2; exact h2.1⟩), ← ih]
      unfold quoK
      rw [List.map_append, List.sum_append]
      simp
theorem quo_all {l : List Int} (hg : grpB l = true) {h a : Nat} (hs : IsSg l h) (ha : a < 2 ^ (prodI l).toNat) : (quoK l h a (repsK l h (prodI l).toNat)).sum = (bitsN a).length := by
  have hP := (ords_grp hg).prod
  rw [quo_total hg hs a _ (by omega), seen_full hg hs]
  congr 2
  rw [Nat.and_comm, Nat.and_two_pow_sub_one_eq_mod, Nat.mod_eq_of_lt ha]
end Go.Proofs.YtaacofbmbpkeoaaGreatDoor

namespace Go.Proofs.YtaacofbmbpkeoaaGreatDoor
open Go.RowKit
theorem accL_sum : ∀ (L : List Int), accN (fun i => L.getD i 0) L.length = L.sum := by
  have h : ∀ (L : List Int) k, k ≤ L.length → accN (fun i => L.getD i 0) k = (L.take k).sum := by
    intro L k
    induction k with
    | zero => intro _; simp [accN]
    | succ k ih =>
      intro hk
      simp only [accN]
      rw [ih (by omega), List.take_add_one, List.getElem?_eq_getElem (by omega), List.sum_append]
      simp [List.getD, List.getElem?_eq_getElem (show k < L.length by omega)]
  intro L
  rw [h L _ (Nat.le_refl _), List.take_length]
theorem tab_facts (l : List Int) (a b : Int) : (tabE l a b).length ≤ 24 ∧ (∀ x ∈ tabE l a b, 0 ≤ x ∧ x ≤ 576) ∧ (∀ i, i < (tabE l a b).length → cntS l a b (i : Int) = (tabE l a b).getD i 0) := by
  cases h : two l a b with
  | false =>
    rw [tabE_no h]
    exact ⟨by simp, fun x hx => by simp at hx, fun i hi => by simp at hi⟩
  | true =>
    have hg : grpB l = true := by have h3 := h; unfold two at h3; rw [Bool.and_eq_true] at h3; exact (isS_true h3.1).1
    have hp := (ords_grp hg).prod
    rw [tabE_two h, tabN_len]
    refine ⟨by omega, fun x hx => ?_, fun i hi => ?_⟩
    · obtain ⟨i, hi, rfl⟩ := List.getElem_of_mem hx
      have hi2 : i < (prodI l).toNat := by rw [tabN_len] at hi; exact hi
      have := tabN_bnd l a.toNat b.toNat hi2
      rw [List.getD, List.getElem?_eq_getElem hi] at this
      exact this
    · rw [tabN_at l _ _ hi]
      unfold cntS
      rw [if_pos ⟨h, by omega, by omega⟩, Int.toNat_natCast]
/-- All that the law asks where both sets are sets that are not empty. -/
theorem top_law {l : List Int} {a b : Int} (h : neB l a b = true) :
    knE l a b ≤ cntE l (sumE l a b) ∧ sgB l (kpH l a b) = true ∧ stE l (sumE l a b) = kpH l a b ∧ sumE l (kpA l a b) (kpB l a b) = sumE l a b ∧ tgtB l a b = (cntE l (sumE l a b) == knE l a b) ∧
    (tabE l a b).sum = cntE l a * cntE l b ∧ cntE l a * cntE l b * (cntE l a * cntE l b) ≤ engE l a b * cntE l (sumE l a b) ∧
    (cntE l (sumE l a b) < cntE l a + cntE l b - 1 → perB l (sumE l a b) = true) ∧
    (0 ≤ cntE l a ∧ cntE l a ≤ 24) ∧ (0 ≤ cntE l b ∧ cntE l b ≤ 24) ∧ (0 ≤ cntE l (sumE l a b) ∧ cntE l (sumE l a b) ≤ 24) ∧
    (corE l a a).length = (corE l b b).length ∧ (corE l a a).length ≤ 24 ∧ (∀ i, i < (corE l a a).length → (0 ≤ (corE l a a).getD i 0 ∧ (corE l a a).getD i 0 ≤ 576) ∧ (0 ≤ (corE l b b).getD i 0 ∧ (corE l b b).getD i 0 ≤ 576)) ∧
    accN (fun i => (corE l a a).getD i 0 * (corE l b b).getD i 0) (corE l a a).length = engE l a b ∧ 0 ≤ engE l a b ∧ engE l a b ≤ 7962624 := by
  have h2 := ne_two h
  obtain ⟨es, hsa, hsb, hss, ec⟩ := two_sum h2
  obtain ⟨ea, a1, a2⟩ := cnt_set hsa
  obtain ⟨eb, b1, b2⟩ := cnt_set hsb
  obtain ⟨_, c1, c2⟩ := cnt_set hss
  obtain ⟨hg, m, n, rfl, rfl, h3, h4, h5, h6⟩ := neB_yes h
  have hp := (ords_grp hg).prod
  simp only [Int.toNat_natCast] at es ec ea eb
  have hs := sumN_lt hg m n
  have hH := stN_lt (l := l) (sumN l m n)
  have eH : kpH l (m : Int) (n : Int) = ((stN l (sumN l m n) : Nat) : Int) := by unfold kpH; rw [if_pos h]; simp only [Int.toNat_natCast]
  have eA : kpA l (m : Int) (n : Int) = ((sumN l m (stN l (sumN l m n)) : Nat) : Int) := by unfold kpA; rw [if_pos h]; simp only [Int.toNat_natCast]
  have eB : kpB l (m : Int) (n : Int) = ((sumN l n (stN l (sumN l m n)) : Nat) : Int) := by unfold kpB; rw [if_pos h]; simp only [Int.toNat_natCast]
  have eK : knE l (m : Int) (n : Int) = knN l m n := by unfold knE; rw [if_pos h]; simp only [Int.toNat_natCast]
  have hs' : isS l ((sumN l m n : Nat) : Int) = true := isS_of hg hs
  have haa : two l (m : Int) (m : Int) = true := by unfold two; rw [hsa]; rfl
  have hbb : two l (n : Int) (n : Int) = true := by unfold two; rw [hsb]; rfl
  have eCa : corE l (m : Int) (m : Int) = tabN l m (ngN l m) := by unfold corE; rw [if_pos haa]; simp only [Int.toNat_natCast]
  have eCb : corE l (n : Int) (n : Int) = tabN l n (ngN l n) := by unfold corE; rw [if_pos hbb]; simp only [Int.toNat_natCast]
  have eE : engE l (m : Int) (n : Int) = accN (fun i => (tabN l m n).getD i 0 * (tabN l m n).getD i 0) (prodI l).toNat := by unfold engE; rw [if_pos h2]; simp only [Int.toNat_natCast]
  have eT : tabE l (m : Int) (n : Int) = tabN l m n := by rw [tabE_two h2]; simp only [Int.toNat_natCast]
  refine ⟨?_, ?_, ?_, ?_, ?_, ?_, ?_, fun hlt => ?_, ⟨a1, a2⟩, ⟨b1, b2⟩, ⟨c1, c2⟩, ?_, ?_, ?_, ?_, ?_, ?_⟩
  · rw [eK, ec]
    have := kn_num hg h5 h6 h4
    unfold knN
    omega
  · rw [eH]
    exact (sgB_iff (isS_of hg hH)).2 (st_sg hg hs)
  · rw [es, eH]
    unfold stE
    rw [if_pos hs', Int.toNat_natCast]
  · rw [eA, eB, es]
    have h7 : two l ((sumN l m (stN l (sumN l m n)) : Nat) : Int) ((sumN l n (stN l (sumN l m n)) : Nat) : Int) = true := by
      unfold two
      rw [isS_of hg (sumN_lt hg _ _), isS_of hg (sumN_lt hg _ _)]
      rfl
    unfold sumE
    rw [if_pos h7]
    simp only [Int.toNat_natCast]
    rw [kn_fill hg h5 h6]
  · unfold tgtB
    rw [h, Bool.true_and, ec, eK]
    simp only [Int.toNat_natCast]
  · rw [eT, ← accL_sum, tabN_len, tab_total hg h5 h6, ea, eb]
  · rw [ea, eb, ec, eE]
    exact eng_low hg h5 h6
  · rw [es]
    have h8 := kn_per hg h5 h6 h4
    rw [ea, eb, ec] at hlt
    have h9 : 2 ≤ (bitsN (stN l (sumN l m n))).length := by omega
    unfold perB
    rw [hs', Bool.true_and, Int.toNat_natCast]
    refine decide_eq_true ?_
    rcases Nat.lt_or_ge 1 (stN l (sumN l m n)) with g | g
    · exact g
    · have : stN l (sumN l m n) = 0 ∨ stN l (sumN l m n) = 1 := by omega
      rcases this with e | e
      · rw [e] at h9; exact absurd h9 (by decide)
      · rw [e] at h9; exact absurd h9 (by decide)
  · rw [eCa, eCb, tabN_len, tabN_len]
  · rw [eCa, tabN_len]; omega
  · intro i hi
    rw [eCa, tabN_len] at hi
    rw [eCa, eCb]
    exact ⟨tabN_bnd l _ _ hi, tabN_bnd l _ _ hi⟩
  · rw [eCa, eCb, tabN_len, eE]
    exact eng_cor hg h5 h6
  · rw [eE]
    have := accN_bnd (f := fun i => (tabN l m n).getD i 0 * (tabN l m n).getD i 0) (a := 0) (b := 331776) (n := (prodI l).toNat) (fun i hi => by
      obtain ⟨x1, x2⟩ := tabN_bnd l m n hi
      refine ⟨Int.mul_nonneg x1 x1, ?_⟩
      have := Int.mul_le_mul x2 x2 x1 (by omega)
      omega)
    omega
  · rw [eE]
    have := accN_bnd (f := fun i => (tabN l m n).getD i 0 * (tabN l m n).getD i 0) (a := 0) (b := 331776) (n := (prodI l).toNat) (fun i hi => by
      obtain ⟨x1, x2⟩ := tabN_bnd l m n hi
      refine ⟨Int.mul_nonneg x1 x1, ?_⟩
      have := Int.mul_le_mul x2 x2 x1 (by omega)
      omega)
    have h10 : ((prodI l).toNat : Int) * 331776 ≤ 24 * 331776 := Int.mul_le_mul_of_nonneg_right (by omega) (by decide)
    omega
theorem sum_comm (l : List Int) (a b : Int) : sumE l b a = sumE l a b := by
  cases h : two l a b with
  | false =>
    have h2 : two l b a = false := by unfold two at h ⊢; rw [Bool.and_comm]; exact h
    unfold sumE
    rw [if_neg (by simp [h2]), if_neg (by simp [h])]
  | true =>
    have h2 : two l b a = true := by unfold two at h ⊢; rw [Bool.and_comm]; exact h
    have h3 := h
    unfold two at h3
    rw [Bool.and_eq_true] at h3
    obtain ⟨_, m, rfl, _, hm⟩ := isS_true h3.1
    obtain ⟨_, n, rfl, _, hn⟩ := isS_true h3.2
    unfold sumE
    rw [if_pos h, if_pos h2]
    simp only [Int.toNat_natCast]
    rw [sumN_comm l hm hn]
end Go.Proofs.YtaacofbmbpkeoaaGreatDoor
