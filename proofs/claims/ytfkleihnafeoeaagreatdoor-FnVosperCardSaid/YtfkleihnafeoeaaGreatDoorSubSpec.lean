/- The document's reading of chapter 5: what a set generates, subgroups, cosets, hulls. -/
import Derived.Test.YtfkleihnafeoeaaGreatDoorSubMath
import Derived.Test.YtfkleihnafeoeaaGreatDoorSumSpec
namespace Go.Proofs.YtfkleihnafeoeaaGreatDoor
open Go.RowKit
set_option maxRecDepth 1000000
theorem sumN24 {l : List Int} (hg : grpB l = true) (s t : Nat) : sumN l s t < 2 ^ 24 := grp_pow hg (sumN_lt hg s t)
/-- What a set generates, as a number; -1 for no set. -/
def GenX (l : List Int) (a r : Int) : Prop := (isS l a = true → ∃ c : Nat, r = (c : Int) ∧ IsClo l a.toNat c) ∧ (isS l a = false → r = -1)
theorem genX_ex (l : List Int) (a : Int) : ∃ r, GenX l a r := by
  cases h : isS l a with
  | false => exact ⟨-1, (fun h' => by rw [h] at h'; cases h'), fun _ => rfl⟩
  | true =>
    obtain ⟨hg, s, rfl, _, h24⟩ := isS_true h
    obtain ⟨c, hc⟩ := clo_ex hg h24
    exact ⟨c, fun _ => ⟨c, rfl, by simpa using hc⟩, (fun h' => by rw [h] at h'; cases h')⟩
theorem genX_one {l : List Int} {a r s : Int} (h : GenX l a r) (g : GenX l a s) : r = s := by
  cases hs : isS l a with
  | false => rw [h.2 hs, g.2 hs]
  | true =>
    obtain ⟨c, rfl, hc⟩ := h.1 hs
    obtain ⟨d, rfl, hd⟩ := g.1 hs
    rw [hc.one hd]
/-- Whether a number is a subgroup. -/
def sgB (l : List Int) (a : Int) : Bool := isS l a && (a.toNat.testBit 0 && (bitsN a.toNat).all fun x => (bitsN a.toNat).all fun y => a.toNat.testBit (addN l (y : Int) (x : Int)).toNat)
theorem sgB_no {l : List Int} {a : Int} (h : isS l a = false) : sgB l a = false := by unfold sgB; rw [h]; rfl
theorem sgB_iff {l : List Int} {a : Nat} (hs : isS l (a : Int) = true) : sgB l (a : Int) = true ↔ IsSg l a := by
  obtain ⟨hg, s, e, h1, h24⟩ := isS_true hs
  have e' : a = s := by omega
  subst e'
  unfold sgB IsSg Keeps
  rw [hs, Bool.true_and, Int.toNat_natCast, Bool.and_eq_true, List.all_eq_true]
  constructor
  · rintro ⟨h0, hall⟩
    exact ⟨h1, h0, fun x y hx hy => List.all_eq_true.1 (hall x ((mem_bits h24 x).2 hx)) y ((mem_bits h24 y).2 hy)⟩
  · rintro ⟨_, h0, hall⟩
    exact ⟨h0, fun x hx => List.all_eq_true.2 fun y hy => hall x y ((mem_bits h24 x).1 hx) ((mem_bits h24 y).1 hy)⟩
theorem sgB_clo {l : List Int} {a c : Nat} (hs : isS l (a : Int) = true) (hc : IsClo l a c) : sgB l (a : Int) = ((c : Int) == (a : Int)) := by
  obtain ⟨hg, s, e, h1, h24⟩ := isS_true hs
  have e' : a = s := by omega
  subst e'
  have h := (hc.self hg h1).trans (sgB_iff hs).symm
  cases hb : sgB l (a : Int) with
  | true => rw [h.2 hb]; simp
  | false =>
    have : c ≠ a := fun e => by rw [h.1 e] at hb; cases hb
    symm
    simp
    omega
/-- The least element of a set that is not empty. -/
def lowN (a : Nat) : Nat := ((List.range 24).find? fun i => a.testBit i).getD 0
theorem low_is {a : Nat} (h : a < 2 ^ 24) (h0 : a ≠ 0) : lowN a < 24 ∧ a.testBit (lowN a) = true ∧ ∀ i, i < lowN a → a.testBit i = false := by
  unfold lowN
  cases hf : (List.range 24).find? fun i => a.testBit i with
  | none =>
    exfalso
    rw [List.find?_eq_none] at hf
    refine h0 (Nat.eq_of_testBit_eq fun i => ?_)
    rw [Nat.zero_testBit]
    by_cases hi : i < 24
    · simpa using hf i (List.mem_range.2 hi)
    · exact bit_no h i (by omega)
  | some k =>
    rw [List.find?_range_eq_some] at hf
    refine ⟨List.mem_range.1 hf.2.1, hf.1, fun i hi => ?_⟩
    simpa using hf.2.2 i hi
/-- Whether a number is a coset. -/
def cosB (l : List Int) (s : Int) : Bool := isS l s && (decide (0 < s) && sgB l (movN l s.toNat (negN l (lowN s.toNat : Nat)).toNat : Nat))
theorem neg_nat {l : List Int} (hg : grpB l = true) (x : Int) : ∃ u : Nat, negN l x = (u : Int) ∧ (u : Int) ≤ 23 := by
  have h := negN_in (ords_grp hg) x
  have h2 := (ords_grp hg).prod.2
  exact ⟨(negN l x).toNat, by omega, by omega⟩
/-- The least coset that holds a set; -1 for no set or the empty one. -/
def HullX (l : List Int) (s r : Int) : Prop := (isS l s = true → s ≠ 0 → ∃ c : Nat, IsClo l (movN l s.toNat (negN l (lowN s.toNat : Nat)).toNat) c ∧ r = (movN l c (lowN s.toNat) : Nat)) ∧ ((isS l s = false ∨ s = 0) → r = -1)
theorem hullX_ex (l : List Int) (s : Int) : ∃ r, HullX l s r := by
  by_cases h : isS l s = true ∧ s ≠ 0
  · obtain ⟨hg, t, rfl, _, h24⟩ := isS_true h.1
    obtain ⟨c, hc⟩ := clo_ex hg (movN_lt24 hg ((t : Int)).toNat (negN l (lowN ((t : Int)).toNat : Nat)).toNat)
    exact ⟨(movN l c (lowN ((t : Int)).toNat) : Nat), fun _ _ => ⟨c, hc, rfl⟩, fun h' => by rcases h' with h' | h' <;> simp_all⟩
  · exact ⟨-1, fun h1 h2 => absurd ⟨h1, h2⟩ h, fun _ => rfl⟩
end Go.Proofs.YtfkleihnafeoeaaGreatDoor
