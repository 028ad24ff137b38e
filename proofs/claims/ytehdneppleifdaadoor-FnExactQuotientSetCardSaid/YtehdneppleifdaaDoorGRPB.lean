/- Merged: GrpSpec3 GrpSpec4 GrpSpec5 GrpSpec6. -/
import Derived.Test.YtehdneppleifdaaDoorGRPA
import Derived.Deep.QuietTactic
namespace Go.Proofs.YtehdneppleifdaaDoor
open Go.RowKit
set_option maxRecDepth 1000000
/-- Whether x is an element. -/
def isE (l : List Int) (x : Int) : Bool := decide (0 ≤ x) && decide (x < ordN l)
theorem isE_true {l : List Int} {x : Int} (h : isE l x = true) : grpB l = true ∧ 0 ≤ x ∧ x < prodI l ∧ x ≤ 23 := by
  simp only [isE, Bool.and_eq_true, decide_eq_true_eq] at h
  cases hg : grpB l with
  | false => rw [ordN_no hg] at h; omega
  | true =>
    rw [ordN_grp hg] at h
    have := (grpB_true hg).2.2
    exact ⟨rfl, h.1, h.2, by omega⟩
/-- The document's sum. -/
def addE (l : List Int) (x y : Int) : Int := if isE l x = true then (if isE l y = true then addN l x y else -1) else -1
end Go.Proofs.YtehdneppleifdaaDoor

namespace Go.Proofs.YtehdneppleifdaaDoor
open Go.RowKit
set_option maxRecDepth 1000000
/-- A place of the negative. -/
def ndig (l : List Int) (x : Int) (k : Nat) : Int := -(x / PK l k % l.getD k 0) % l.getD k 0
theorem ndig_bnd {l : List Int} (h : Ords l) (x : Int) {k : Nat} (hk : k < l.length) : 0 ≤ ndig l x k ∧ ndig l x k < l.getD k 0 := by
  have := h.pos k hk
  exact ⟨Int.emod_nonneg _ (by omega), Int.emod_lt_of_pos _ (by omega)⟩
theorem ndig_neg (l : List Int) (x : Int) : valK l (ndig l x) l.length = negN l x := by
  unfold negN mulN
  apply val_congr
  intro j _
  unfold ndig mulF
  rw [← neg_place, Int.sub_eq_add_neg, Int.add_comm, Int.add_emod_right]; rfl
def negE (l : List Int) (x : Int) : Int := if isE l x = true then negN l x else -1
/-- The document's multiple. -/
def mulE (l : List Int) (x k : Int) : Int := if isE l x = true then (if -100 ≤ k ∧ k ≤ 100 then mulN l x k else -1) else -1
end Go.Proofs.YtehdneppleifdaaDoor

namespace Go.Proofs.YtehdneppleifdaaDoor
open Go.RowKit
set_option maxRecDepth 1000000
theorem lcm_yes {E c q : Int} (hE : 1 ≤ E) (hc : 1 ≤ c) (hd : E ∣ q) (hq : 1 ≤ q) (hL : q ≤ (E.lcm c : Nat)) (h : q % c = 0) : q = (E.lcm c : Nat) := by
  obtain ⟨e, rfl⟩ : ∃ n : Nat, E = n := ⟨E.toNat, by omega⟩
  obtain ⟨d, rfl⟩ : ∃ n : Nat, c = n := ⟨c.toNat, by omega⟩
  obtain ⟨p, rfl⟩ : ∃ n : Nat, q = n := ⟨q.toNat, by omega⟩
  have h1 : e ∣ p := Int.natCast_dvd_natCast.1 hd
  have h2 : d ∣ p := Int.natCast_dvd_natCast.1 (Int.dvd_of_emod_eq_zero h)
  have h3 : Nat.lcm e d ∣ p := Nat.lcm_dvd h1 h2
  have h4 := Nat.le_of_dvd (by omega) h3
  have h5 : ((e : Int).lcm (d : Int)) = Nat.lcm e d := rfl
  rw [h5] at hL ⊢
  omega
theorem lcm_no {E c q : Int} (hE : 1 ≤ E) (hc : 1 ≤ c) (hd : E ∣ q) (hq : 1 ≤ q) (hL : q ≤ (E.lcm c : Nat)) (h : q % c ≠ 0) : E ∣ q + E ∧ q + E ≤ (E.lcm c : Nat) := by
  refine ⟨Int.dvd_add hd (Int.dvd_refl _), ?_⟩
  obtain ⟨e, rfl⟩ : ∃ n : Nat, E = n := ⟨E.toNat, by omega⟩
  obtain ⟨d, rfl⟩ : ∃ n : Nat, c = n := ⟨c.toNat, by omega⟩
  obtain ⟨p, rfl⟩ : ∃ n : Nat, q = n := ⟨q.toNat, by omega⟩
  have h5 : ((e : Int).lcm (d : Int)) = Nat.lcm e d := rfl
  rw [h5] at hL ⊢
  have h1 : e ∣ p := Int.natCast_dvd_natCast.1 hd
  have h6 : p ≠ Nat.lcm e d := by
    intro e1
    have : d ∣ p := by rw [e1]; exact Nat.dvd_lcm_right _ _
    exact h (Int.emod_eq_zero_of_dvd (Int.natCast_dvd_natCast.2 this))
  have h7 : e ∣ Nat.lcm e d - p := Nat.dvd_sub (Nat.dvd_lcm_left _ _) h1
  have h8 := Nat.le_of_dvd (by omega) h7
  omega
def expE (l : List Int) : Int := if grpB l = true then lcmK l l.length else 0
end Go.Proofs.YtehdneppleifdaaDoor

namespace Go.Proofs.YtehdneppleifdaaDoor
open Go.RowKit
set_option maxRecDepth 1000000
theorem below_grown {w w' : World} (h : Below w.heap.size w w') (row : Option Nat) : w.grownBy w' row := ⟨h.os, h.tape, h.output, h.size, fun k hk _ => h.block k hk⟩
theorem owns_below {w w' : World} {B n : Nat} {e : TypeId} {v : Value} {xs : List Value} (h : w.ownsRow B e 1 v n xs) (hb : Below w.heap.size w w') : w'.ownsRow B e 1 v n xs :=
  h.kept (below_grown hb none) (by cases hv : v.ownBlock with
    | none => exact .inl rfl
    | some g => exact .inr (by simp))
/-- The places of an element. -/
def plc (l : List Int) (x : Int) : List Int := if isE l x = true then (List.range l.length).map (dig l x) else []
theorem isE_quo {l : List Int} {x : Int} (h : isE l x = true) {k : Nat} (hk : k ≤ l.length) : isE l (x / PK l k) = true := by
  obtain ⟨hg, h0, h1, h2⟩ := isE_true h
  obtain ⟨p1, p2⟩ := PK_grp hg k hk
  obtain ⟨q1, q2⟩ := quo_bnd h0 p1
  have e := ordN_grp hg
  simp only [isE, Bool.and_eq_true, decide_eq_true_eq]
  omega
/-- Places that are those of an element. -/
def ElemP (l p : List Int) : Prop := grpB l = true ∧ p.length = l.length ∧ ∀ j, j < l.length → 0 ≤ p.getD j 0 ∧ p.getD j 0 < l.getD j 0
instance (l p : List Int) : Decidable (ElemP l p) := by unfold ElemP; infer_instance
def elemV (l p : List Int) : Int := if ElemP l p then valK l (fun j => p.getD j 0) l.length else 0
theorem horner_bnd {x c p M : Int} (hx : 0 ≤ x) (hM : x + 1 ≤ M) (hp : 0 ≤ p) (hpc : p < c) (hc : c ≤ 24) : 0 ≤ x * c ∧ 0 ≤ x * c + p ∧ x * c + p + 1 ≤ M * 24 := by
  have h1 : 0 ≤ x * c := Int.mul_nonneg hx (by omega)
  have h2 : (x + 1) * c ≤ M * 24 := Int.mul_le_mul hM hc (by omega) (by omega)
  rw [Int.add_mul, Int.one_mul] at h2
  omega
end Go.Proofs.YtehdneppleifdaaDoor
