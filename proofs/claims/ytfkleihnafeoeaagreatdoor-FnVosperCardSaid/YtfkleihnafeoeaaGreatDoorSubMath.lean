/- What a set generates: the least set with 0 that its elements do not lead out of; subgroups; cosets. -/
import Derived.Test.YtfkleihnafeoeaaGreatDoorSumMath
import Derived.Test.YtfkleihnafeoeaaGreatDoorSetMem
import Derived.Test.YtfkleihnafeoeaaGreatDoorGrpAx
namespace Go.Proofs.YtfkleihnafeoeaaGreatDoor
/-- Every element of the first is one of the second. -/
def Part (s t : Nat) : Prop := ∀ k, s.testBit k = true → t.testBit k = true
theorem Part.same {s t : Nat} (h : Part s t) (g : Part t s) : s = t := bits_same fun i => ⟨h i, g i⟩
/-- s has 0, and a's elements do not lead out of it. -/
def Keeps (l : List Int) (a s : Nat) : Prop := s.testBit 0 = true ∧ ∀ x y : Nat, a.testBit x = true → s.testBit y = true → s.testBit (addN l (y : Int) (x : Int)).toNat = true
/-- s is what a generates. -/
structure IsClo (l : List Int) (a s : Nat) : Prop where
  lt : s < 2 ^ (prodI l).toNat
  keeps : Keeps l a s
  least : ∀ t, Keeps l a t → Part s t
theorem IsClo.one {l : List Int} {a s t : Nat} (h : IsClo l a s) (g : IsClo l a t) : s = t := (h.least t g.keeps).same (g.least s h.keeps)
/-- What stands while it is being made. -/
structure CloInv (l : List Int) (a s : Nat) : Prop where
  lt : s < 2 ^ (prodI l).toNat
  zero : s.testBit 0 = true
  least : ∀ t, Keeps l a t → Part s t
theorem cloInv_one {l : List Int} (hg : grpB l = true) (a : Nat) : CloInv l a 1 where
  lt := by
    have := (ords_grp hg).prod.1
    exact Nat.one_lt_two_pow (by omega)
  zero := rfl
  least := fun t h k hk => by
    cases k with
    | zero => exact h.1
    | succ k => rw [Nat.testBit_succ] at hk; simp at hk
theorem cloInv_step {l : List Int} (hg : grpB l = true) {a s : Nat} (ha : a < 2 ^ 24) (h : CloInv l a s) : CloInv l a (s ||| sumN l s a) where
  lt := Nat.or_lt_two_pow h.lt (sumN_lt hg s a)
  zero := by rw [Nat.testBit_or, h.zero]; rfl
  least := fun t ht k hk => by
    rw [Nat.testBit_or] at hk
    rcases Bool.or_eq_true_iff.1 hk with h1 | h1
    · exact h.least t ht k h1
    · obtain ⟨x, y, hx, hy, hz⟩ := (sumN_bit l (grp_pow hg h.lt) ha k).1 h1
      rw [← hz]; exact ht.2 x y hx (h.least t ht y hy)
theorem cloInv_end {l : List Int} (hg : grpB l = true) {a s : Nat} (ha : a < 2 ^ 24) (h : CloInv l a s) (he : s ||| sumN l s a = s) : IsClo l a s where
  lt := h.lt
  keeps := ⟨h.zero, fun x y hx hy => by
    rw [← he, Nat.testBit_or]
    exact Bool.or_eq_true_iff.2 (.inr ((sumN_bit l (grp_pow hg h.lt) ha _).2 ⟨x, y, hx, hy, rfl⟩))⟩
  least := h.least
theorem or_grow {s v : Nat} (h : s ||| v ≠ s) : s < s ||| v := by
  have : s ≤ s ||| v := Nat.left_le_or
  omega
theorem clo_from {l : List Int} (hg : grpB l = true) {a : Nat} (ha : a < 2 ^ 24) : ∀ (k s : Nat), 2 ^ 24 - s ≤ k → CloInv l a s → ∃ c, IsClo l a c
  | 0, s, hk, h => absurd (grp_pow hg h.lt) (by omega)
  | k + 1, s, hk, h => by
    by_cases he : s ||| sumN l s a = s
    · exact ⟨s, cloInv_end hg ha h he⟩
    · have h1 := or_grow he
      have h2 := cloInv_step hg ha h
      exact clo_from hg ha k _ (by omega) h2
theorem clo_ex {l : List Int} (hg : grpB l = true) {a : Nat} (ha : a < 2 ^ 24) : ∃ c, IsClo l a c := clo_from hg ha (2 ^ 24) 1 (by omega) (cloInv_one hg a)
theorem el_of {l : List Int} (hg : grpB l = true) {s k : Nat} (hs : s < 2 ^ (prodI l).toNat) (h : s.testBit k = true) : (k : Int) < prodI l := by
  have hp := (ords_grp hg).prod.1
  by_cases hk : (prodI l).toNat ≤ k
  · rw [bit_no hs k hk] at h; cases h
  · omega
theorem nat_add {l : List Int} (h : Ords l) (x y : Int) : (((addN l x y).toNat : Nat) : Int) = addN l x y := Int.toNat_of_nonneg (addN_in h x y).1
theorem nat_neg {l : List Int} (h : Ords l) (x : Int) : (((negN l x).toNat : Nat) : Int) = negN l x := Int.toNat_of_nonneg (negN_in h x).1
theorem zero_add' {l : List Int} (hg : grpB l = true) {x : Nat} (hx : (x : Int) < prodI l) : (addN l ((0 : Nat) : Int) (x : Int)).toNat = x := by
  rw [addN_comm, show (((0 : Nat) : Nat) : Int) = 0 from rfl, addN_zero (ords_grp hg) (by omega) hx]; simp
/-- What a generates holds a. -/
theorem IsClo.holds {l : List Int} (hg : grpB l = true) {a c : Nat} (ha : a < 2 ^ (prodI l).toNat) (h : IsClo l a c) : Part a c := fun x hx => by
  have := h.keeps.2 x 0 hx h.keeps.1
  rwa [zero_add' hg (el_of hg ha hx)] at this
/-- A subgroup: with 0, and its own sums. -/
def IsSg (l : List Int) (s : Nat) : Prop := s < 2 ^ (prodI l).toNat ∧ Keeps l s s
theorem IsClo.self {l : List Int} (hg : grpB l = true) {a c : Nat} (ha : a < 2 ^ (prodI l).toNat) (h : IsClo l a c) : c = a ↔ IsSg l a :=
  ⟨fun e => by subst e; exact ⟨ha, h.keeps⟩, fun s => (h.least a s.2).same (h.holds hg ha)⟩
/-- What a generates is a subgroup. -/
theorem IsClo.sg {l : List Int} (hg : grpB l = true) {a c : Nat} (h : IsClo l a c) : IsSg l c := by
  refine ⟨h.lt, h.keeps.1, fun x y hx hy => ?_⟩
  -- the elements x of c that lead into c from everywhere in c
  have hO := ords_grp hg
  have key : ∀ (k : Nat), c.testBit k = true → ∀ y, c.testBit y = true → c.testBit (addN l (y : Int) (k : Int)).toNat = true := by
    let t := orF (fun x : Nat => (x : Int)) ((bitsN c).filter fun x => (bitsN c).all fun y => c.testBit (addN l (y : Int) (x : Int)).toNat)
    have c24 := grp_pow hg h.lt
    have ht : ∀ k, t.testBit k = true ↔ c.testBit k = true ∧ ∀ y, c.testBit y = true → c.testBit (addN l (y : Int) (k : Int)).toNat = true := fun k => by
      show (orF _ _).testBit k = true ↔ _
      rw [orF_bit]
      constructor
      · rintro ⟨x, hx, e⟩
        rw [Int.toNat_natCast] at e
        subst e
        rw [List.mem_filter] at hx
        refine ⟨(mem_bits c24 _).1 hx.1, fun y hy => ?_⟩
        have := List.all_eq_true.1 hx.2 y ((mem_bits c24 y).2 hy)
        simpa using this
      · rintro ⟨h1, h2⟩
        refine ⟨k, List.mem_filter.2 ⟨(mem_bits c24 k).2 h1, List.all_eq_true.2 fun y hy => h2 y ((mem_bits c24 y).1 hy)⟩, by simp⟩
    have hk : Keeps l a t := by
      refine ⟨(ht 0).2 ⟨h.keeps.1, fun y hy => ?_⟩, fun x y hx hy => (ht _).2 ⟨h.keeps.2 x y hx ((ht y).1 hy).1, fun z hz => ?_⟩⟩
      · rw [show (((0 : Nat) : Nat) : Int) = 0 from rfl, addN_zero hO (by omega) (el_of hg h.lt hy)]; simpa using hy
      · rw [nat_add hO, ← addN_assoc hO, ← nat_add hO (z : Int) (y : Int)]
        exact h.keeps.2 x _ hx (((ht y).1 hy).2 z hz)
    exact fun k hk' => ((ht k).1 (h.least t hk k hk')).2
  exact key x hx y hy
end Go.Proofs.YtfkleihnafeoeaaGreatDoor
