/- The library's sort of sets, by numbers: a row of the heap, comparison, insertion. -/
import Derived.Test.YtiponiflebmooaaGrpBase
import Derived.Test.YtiponiflebmooaaGrpFun
import Derived.Sort.Lot0
import Derived.Shelf.RegionOpenPlain
import Derived.BigQuiet
import Derived.CellFam
import Derived.Deep.RegionHeld3
namespace Go.Proofs.Ytiponiflebmooaa
open Go.RowKit
set_option maxRecDepth 1000000
def ltN (x y : Nat) : Bool := decide (x < y)
def eV (x : Nat) : Value := .int .u64 ((x : Nat) : Int)
/-- Block g holds the array d, pre ahead of it, tl behind it. -/
def SR (w : World) (g : Nat) (pre tl : List Value) (d : Array Nat) : Prop := w.heap[g]? = some (.cells (pre ++ d.toList.map eV ++ tl).toArray 50 (0, 0))
theorem SR.fam {w : World} {g off : Nat} {pre tl : List Value} {d : Array Nat} (h : SR w g pre tl d) (ho : pre.length = off) {i : Nat} (hi : i < d.size) : w.cell? ⟨g, off + i, none⟩ = some (.int .u64 ((d[i]! : Nat) : Int)) := by
  unfold SR at h
  unfold World.cell?
  simp only [h]
  have : (pre ++ d.toList.map eV ++ tl)[off + i]? = some (eV d[i]!) := by
    rw [List.append_assoc, List.getElem?_append_right (by omega), List.getElem?_append_left (by simp; omega), List.getElem?_map]
    simp [← ho, hi]
  simpa [eV] using this
theorem SR.frozen {w : World} {g : Nat} {pre tl : List Value} {d : Array Nat} (h : SR w g pre tl d) (i : Nat) : w.frozen? ⟨g, i, none⟩ = false := by
  unfold SR at h
  simp [World.frozen?, h]
theorem SR.drewN {w : World} {g : Nat} {pre tl : List Value} {d : Array Nat} (h : SR w g pre tl d) (n : Nat) : SR (w.drewN n) g pre tl d := h
theorem SR.set {w : World} {g off : Nat} {pre tl : List Value} {d : Array Nat} (h : SR w g pre tl d) (ho : pre.length = off) (i x : Nat) (hi : i < d.size) : SR (w.setCell ⟨g, off + i, none⟩ (.int .u64 ((x : Nat) : Int))) g pre tl (d.setIfInBounds i x) := by
  unfold SR at h ⊢
  rw [heap_setCell_same w g (off + i) _ _ _ h]
  congr 2
  apply Array.ext'
  simp only [Array.toList_setIfInBounds, List.map_set]
  rw [List.append_assoc, List.append_assoc, List.set_append_right _ _ (by omega), List.set_append_left _ _ (by simp; omega)]
  congr 3
  omega
theorem SR.swp {w : World} {g off : Nat} {pre tl : List Value} {d : Array Nat} (h : SR w g pre tl d) (ho : pre.length = off) {i j : Nat} (hi : i < d.size) (hj : j < d.size) :
    SR ((w.setCell ⟨g, off + i, none⟩ (.int .u64 ((d[j]! : Nat) : Int))).setCell ⟨g, off + j, none⟩ (.int .u64 ((d[i]! : Nat) : Int))) g pre tl (Sort.swp d i j) :=
  (h.set ho i _ hi).set ho j _ (by simpa using hj)
theorem swp_size (d : Array Nat) (i j : Nat) : (Sort.swp d i j).size = d.size := Sort.size_swp d i j
theorem iNaN (w : World) (x : Nat) : Calls Try.prog 57 #[.int .u64 x] w fun e w' => e = .returned (.bool false) ∧ w = w' := by
  go_enter Try.func57, Try.ntmps57
  go_wp2
  go_ret
  exact ⟨by simp, rfl⟩
theorem iLt (w : World) (x y : Nat) : Calls Try.prog 47 #[.int .u64 x, .int .u64 y] w fun e w' => e = .returned (.bool (ltN x y)) ∧ w' = w := by
  have hl : decide ((x : Int) < (y : Int)) = ltN x y := by unfold ltN; simp
  go_enter Try.func47, Try.ntmps47
  go_wp2_with (go_at_call 57; refine (iNaN _ _).mono ?_; rintro e w1 ⟨rfl, rfl⟩)
  go_ret
  exact ⟨by first | rfl | (simp [ltN]), rfl⟩
end Go.Proofs.Ytiponiflebmooaa
