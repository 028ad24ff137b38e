/- Shifts, negatives and dilates of sets by the document's reading. -/
import Derived.Test.YtfkleihnafeoeaaSetMark
import Derived.Test.YtfkleihnafeoeaaGrpSpec4
import Derived.Test.YtfkleihnafeoeaaOrI
import Derived.Deep.RegionHeld3
import Derived.Deep.DeepCutAuto
namespace Go.Proofs.Ytfkleihnafeoeaa
open Go.RowKit
set_option maxRecDepth 1000000
/-- The elements of a set as a list of ints. -/
def LI (s : Nat) : List Int := (bitsN s).map fun (x : Nat) => (x : Int)
theorem LI_len (s : Nat) : (LI s).length = (bitsN s).length := by simp [LI]
theorem LI_at (s k : Nat) (h : k < (bitsN s).length) : (LI s).getD k 0 = (((bitsN s).getD k 0 : Nat) : Int) := by
  simp [LI, List.getD, h]
theorem bits_at (s k : Nat) (h : k < (bitsN s).length) : (bitsN s).getD k 0 ≤ 23 := by
  have : (bitsN s).getD k 0 ∈ bitsN s := by
    simp only [List.getD, List.getElem?_eq_getElem h, Option.getD_some]; exact List.getElem_mem h
  have := (upK_mem this).1; omega
theorem take_next (F : Nat → Int) (s k : Nat) (h : k < (bitsN s).length) : orF F ((bitsN s).take (k + 1)) = orF F ((bitsN s).take k) ||| 2 ^ (F ((bitsN s).getD k 0)).toNat := by
  rw [List.take_add_one, List.getElem?_eq_getElem h]
  simp only [Option.toList_some]
  rw [orF_snoc]
  simp [List.getD, List.getElem?_eq_getElem h]
theorem sL3I (w : World) (s : Nat) (h : s < 2 ^ 24) :
    Calls Try.prog 26 #[.int .i64 s] w fun e w' => ∃ v, e = .returned v ∧ w'.ownsRow w.heap.size 3 1 v (LI s).length ((LI s).map (Value.int .i64)) ∧ Below w.heap.size w w' :=
  (sL3 w s h).mono fun _ _ ⟨v, e1, e2, e3⟩ => ⟨v, e1, by rw [LI_len, show (LI s).map (Value.int .i64) = lstN (bitsN s) by simp [LI, lstN]]; exact e2, e3⟩
theorem addN_bnd {l : List Int} (h : grpB l = true) (x y : Int) : 0 ≤ addN l x y ∧ addN l x y ≤ 23 := by
  have := valK_bnd h (sdig l x y) l.length (Nat.le_refl _) (fun j hj => sdig_bnd h x y hj)
  have hp := (ords_grp h).prod
  rw [PK_full] at this
  unfold addN; omega
theorem mulN_bnd' {l : List Int} (h : grpB l = true) (x k : Int) : 0 ≤ mulN l x k ∧ mulN l x k ≤ 23 := by
  have := mulN_bnd (ords_grp h) x k
  have hp := (ords_grp h).prod
  omega
theorem orT_lt {F : Nat → Int} (h : ∀ y, 0 ≤ F y ∧ F y ≤ 23) (L : List Nat) : orF F L < 16777216 := orF_lt _ _ 24 (fun x _ => by have := h x; omega)
/-- A bit of a set is an element. -/
theorem bits_isE {l : List Int} {m y : Nat} (hs : isS l (m : Int) = true) (hy : y ∈ bitsN m) : isE l (y : Int) = true := by
  obtain ⟨hg, m', e, hm, _⟩ := isS_true hs
  obtain rfl : m = m' := by omega
  have hb := (upK_mem hy).2
  have hlt : y < (prodI l).toNat := by
    rcases Nat.lt_or_ge y (prodI l).toNat with h | h
    · exact h
    · rw [bit_no hm y h] at hb; cases hb
  have hp := (ords_grp hg).prod
  simp only [isE, ordN_grp hg, Bool.and_eq_true, decide_eq_true_eq]
  omega
/-- The document's answers. -/
def shE (l : List Int) (s x : Int) : Int := if isS l s = true then (if isE l x = true then (orF (fun y => addN l (y : Int) x) (bitsN s.toNat) : Nat) else -1) else -1
def ngE (l : List Int) (s : Int) : Int := if isS l s = true then (orF (fun y => negN l (y : Int)) (bitsN s.toNat) : Nat) else -1
def dlE (l : List Int) (s k : Int) : Int := if isS l s = true then (if -100 ≤ k ∧ k ≤ 100 then (orF (fun y => mulN l (y : Int) k) (bitsN s.toNat) : Nat) else -1) else -1
end Go.Proofs.Ytfkleihnafeoeaa
