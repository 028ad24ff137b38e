/- Sets out of lists of elements: the plain reader, and the contract of spec.SetOf. -/
import Derived.Test.YthoiabdndaoflabDoorSetSpec
import Derived.Deep.RegionHeld3
import Derived.Deep.DeepCutAuto
namespace Go.Proofs.YthoiabdndaoflabDoor
open Go.RowKit
set_option maxRecDepth 1000000
/-- The set of the first k of the elements, if they are elements and different. -/
def setS (l p : List Int) : Nat → Option Nat
  | 0 => some 0
  | k + 1 => match setS l p k with
    | none => none
    | some s => if isE l (p.getD k 0) = true then (if s.testBit (p.getD k 0).toNat = true then none else some (s + 2 ^ (p.getD k 0).toNat)) else none
theorem setS_none {l p : List Int} {k : Nat} (h : setS l p k = none) : ∀ m, setS l p (k + m) = none
  | 0 => h
  | m + 1 => by
    show (match setS l p (k + m) with | none => none | some s => _) = none
    rw [setS_none h m]
theorem setS_out {l p : List Int} {k n : Nat} (h : setS l p (k + 1) = none) (hk : k < n) : setS l p n = none := by
  have := setS_none h (n - (k + 1))
  rwa [show k + 1 + (n - (k + 1)) = n by omega] at this
theorem setS_bad {l p : List Int} {k s : Nat} (h : setS l p k = some s) (he : isE l (p.getD k 0) = false) : setS l p (k + 1) = none := by
  simp only [setS, h]; rw [if_neg (by rw [he]; decide)]
theorem setS_dup {l p : List Int} {k s : Nat} (h : setS l p k = some s) (he : isE l (p.getD k 0) = true) (hb : s.testBit (p.getD k 0).toNat = true) : setS l p (k + 1) = none := by
  simp only [setS, h]; rw [if_pos he, if_pos hb]
theorem setS_add {l p : List Int} {k s : Nat} (h : setS l p k = some s) (he : isE l (p.getD k 0) = true) (hb : s.testBit (p.getD k 0).toNat = false) : setS l p (k + 1) = some (s + 2 ^ (p.getD k 0).toNat) := by
  simp only [setS, h]; rw [if_pos he, if_neg (by rw [hb]; decide)]
theorem keepDs {w w' : World} {p : Addr} {v : Value} (hb : Below w.heap.size w w') (h : w.cell? p = some v) : w'.cell? p = some v := keepC hb (World.block_lt_of_cell? w _ h) h
theorem add_or {s x : Nat} (h : s.testBit x = false) : s + 2 ^ x = s ||| 2 ^ x := by
  have h1 : s = 2 ^ (x + 1) * (s / 2 ^ (x + 1)) + s % 2 ^ (x + 1) := (Nat.div_add_mod s _).symm
  have h2 : s % 2 ^ (x + 1) < 2 ^ x := by
    have hm := Nat.mod_lt s (Nat.two_pow_pos (x + 1))
    rcases Nat.lt_or_ge (s % 2 ^ (x + 1)) (2 ^ x) with h3 | h3
    · exact h3
    · exfalso
      have h4 : (s % 2 ^ (x + 1)).testBit x = true := by
        rw [Nat.testBit_eq_decide_div_mod_eq]
        have : s % 2 ^ (x + 1) / 2 ^ x = 1 := by
          apply Nat.div_eq_of_lt_le
          · simpa using h3
          · rw [Nat.pow_succ] at hm; omega
        rw [this]; rfl
      rw [Nat.testBit_mod_two_pow, h] at h4
      simp at h4
  generalize s / 2 ^ (x + 1) = q at h1
  generalize s % 2 ^ (x + 1) = r at h1 h2
  subst h1
  have hr : r < 2 ^ (x + 1) := by rw [Nat.pow_succ]; omega
  have e1 : 2 ^ x * 1 + r = 2 ^ x * 1 ||| r := Nat.two_pow_add_eq_or_of_lt h2 1
  rw [Nat.mul_one] at e1
  have hr2 : 2 ^ x + r < 2 ^ (x + 1) := by rw [Nat.pow_succ]; omega
  have e2 : (2 ^ (x + 1) * q + r) ||| 2 ^ x = 2 ^ (x + 1) * q + (2 ^ x + r) := by
    rw [Nat.two_pow_add_eq_or_of_lt hr q, Nat.or_assoc, Nat.or_comm r, ← e1, ← Nat.two_pow_add_eq_or_of_lt hr2 q]
  rw [e2]
  omega
theorem setS_bnd {l p : List Int} : ∀ {k s : Nat}, setS l p k = some s → s < 2 ^ 24
  | 0, s, h => by cases h; decide
  | k + 1, s, h => by
    simp only [setS] at h
    cases hk : setS l p k with
    | none => rw [hk] at h; cases h
    | some u =>
      rw [hk] at h
      simp only at h
      split at h
      · rename_i he
        split at h
        · cases h
        · rename_i hb
          cases h
          obtain ⟨_, e0, _, e1⟩ := isE_true he
          rw [add_or (by simpa using hb)]
          exact Nat.or_lt_two_pow (setS_bnd hk) (Nat.pow_lt_pow_right (by decide) (by omega))
      · cases h
theorem setS_no {l p : List Int} (hg : grpB l = false) : ∀ {k s : Nat}, setS l p k = some s → s = 0
  | 0, s, h => by cases h; rfl
  | k + 1, s, h => by
    simp only [setS] at h
    cases hk : setS l p k with
    | none => rw [hk] at h; cases h
    | some u =>
      rw [hk] at h
      simp only at h
      have : isE l (p.getD k 0) = false := by
        cases he : isE l (p.getD k 0) with
        | false => rfl
        | true => have := (isE_true he).1; rw [hg] at this; cases this
      rw [if_neg (by rw [this]; decide)] at h
      cases h
/-- The document's answer. -/
def setB (l p : List Int) : Bool := (setS l p p.length).isSome && grpB l
def setV (l p : List Int) : Int := (((setS l p p.length).getD 0 : Nat) : Int)
theorem setS_none_r {l p : List Int} (h : setS l p p.length = none) : setB l p = false ∧ setV l p = 0 := by
  unfold setB setV; rw [h]; exact ⟨rfl, rfl⟩
theorem setS_some_r {l p : List Int} {s : Nat} (h : setS l p p.length = some s) : setB l p = grpB l ∧ setV l p = (s : Int) := by
  unfold setB setV; rw [h]; exact ⟨rfl, rfl⟩
theorem bit_at {s x : Nat} (hs : s < 2 ^ 24) : bits .and .i64 (((s / 2 ^ x : Nat) : Int)) 1 = (if s.testBit x = true then 1 else 0) := by
  have h24 : s < 16777216 := hs
  have hle := Nat.div_le_self s (2 ^ x)
  rw [and1 _ (by omega)]
  by_cases hb : s.testBit x = true
  · rw [if_pos hb, (bit_iff s x).1 hb]; rfl
  · rw [if_neg hb]
    have : ¬ s / 2 ^ x % 2 = 1 := fun e => hb ((bit_iff s x).2 e)
    have : s / 2 ^ x % 2 = 0 := by omega
    rw [this]; rfl
theorem div_pow_cast (s x : Nat) : ((s : Int) / 2 ^ x) = ((s / 2 ^ x : Nat) : Int) := by simp
theorem add_pow {u x : Nat} (hu : u < 16777216) (hx : 2 ^ x ≤ 16777216) : wrap64 ((u : Int) + wrap64 (2 ^ x)) = ((u + 2 ^ x : Nat) : Int) := by
  rw [pow_nat]
  generalize 2 ^ x = N at *
  unfold wrap64; omega
end Go.Proofs.YthoiabdndaoflabDoor
