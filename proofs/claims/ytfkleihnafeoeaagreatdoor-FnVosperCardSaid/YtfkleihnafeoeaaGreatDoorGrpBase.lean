/- Lists of ints in memory: the copies that the laws make of a slice and of a group, their sizes, their equality. At every list of at most 2^20 ints. -/
import Derived.Test.YtfkleihnafeoeaaGreatDoorRows
import Derived.WalkKit
import Derived.LoopTactic
import Derived.IntWalk
import Derived.Below
import Derived.OneCell
import Derived.Lib.Hide
import Derived.Lib.SmallJoins
import Derived.Laws.OwnMore
import Derived.Outline
import Derived.Deep.RegionLaw
import Derived.Deep.RegionWith
import Derived.BigQuiet
namespace Go.Proofs.YtfkleihnafeoeaaGreatDoor
open Go.RowKit
set_option maxRecDepth 1000000
abbrev iV (n : Int) : Value := .int .i64 n
theorem intInfo : (Tryz.prog.info? 3).map (fun i => (i.zero, i.size, i.bytes)) = some (some (.int .i64 0), 1, 8) := by kernel_rfl
/-- A row of ints that can be read: none, or a run of cells of a block that is there. -/
def Ints (w : World) (a : Option Addr) (l : List Int) : Prop :=
  l = [] ∨ ∃ b off, a = some ⟨b, off, none⟩ ∧ b < w.heap.size ∧ ∀ i, i < l.length → w.cell? ⟨b, off + i, none⟩ = some (.int .i64 (l.getD i 0))
theorem Ints.below {w w' : World} {a : Option Addr} {l : List Int} (h : Ints w a l) {B : Nat} (hB : B = w.heap.size) (hb : Below B w w') : Ints w' a l := by
  subst hB
  rcases h with h | ⟨b, off, ha, hlt, hc⟩
  · exact .inl h
  · exact .inr ⟨b, off, ha, Nat.lt_of_lt_of_le hlt hb.size, fun i hi => by rw [hb.cell (by simpa using hlt)]; exact hc i hi⟩
theorem ints_alloc {w : World} {a : Option Addr} {l : List Int} (h : Ints w a l) (o : Obj) : Ints (w.alloc o) a l := h.below rfl (Joins.below_alloc1 w o)
/-- The first k of the ints, and zeros behind them. -/
def rowI (l : List Int) (k : Nat) : List Value := (l.take k).map (Value.int .i64) ++ List.replicate (l.length - k) (.int .i64 0)
theorem rowI_zero (l : List Int) : rowI l 0 = (madeCells #[Value.int .i64 0] l.length).toList := by rw [toList_madeCells_one]; simp [rowI]
theorem rowI_full (l : List Int) : rowI l l.length = l.map (Value.int .i64) := by simp [rowI]
theorem rowI_at (l : List Int) (k j : Nat) (hj : j < l.length) : (rowI l k)[j]? = some (.int .i64 (if j < k then l.getD j 0 else 0)) := by
  unfold rowI
  by_cases h : j < k
  · rw [if_pos h, List.getElem?_append_left (by simp; omega)]
    simp [h, List.getD, hj]
  · rw [if_neg h, List.getElem?_append_right (by simp; omega)]
    rw [List.getElem?_replicate, if_pos (by simp; omega)]
theorem rowI_len (l : List Int) (k : Nat) (hk : k ≤ l.length) : (rowI l k).length = l.length := by simp [rowI]; omega
theorem rowI_set (l : List Int) (k : Nat) (hk : k < l.length) : (rowI l k).set k (.int .i64 (l.getD k 0)) = rowI l (k + 1) := by
  apply List.ext_getElem?
  intro j
  by_cases hj : j < l.length
  · rw [List.getElem?_set, rowI_at _ _ _ hj]
    by_cases h : k = j
    · subst h; rw [if_pos rfl, if_pos (by rw [rowI_len _ _ (by omega)]; exact hk), rowI_at _ _ _ hj, if_pos (by omega)]
    · rw [if_neg h, rowI_at _ _ _ hj]
      by_cases h1 : j < k
      · rw [if_pos h1, if_pos (by omega)]
      · rw [if_neg h1, if_neg (by omega)]
  · rw [List.getElem?_eq_none (by rw [List.length_set, rowI_len _ _ (by omega)]; omega), List.getElem?_eq_none (by rw [rowI_len _ _ (by omega)]; omega)]
/-- A row of the call's own reads as its ints. -/
theorem ints_own {w : World} {B g cap : Nat} {l : List Int} (h : w.ownsRow B 3 1 (.slice (some ⟨g, 0, none⟩) l.length cap) l.length (l.map (Value.int .i64))) : Ints w (some ⟨g, 0, none⟩) l := by
  by_cases h0 : l = []
  · exact .inl h0
  · refine .inr ⟨g, 0, rfl, (h.lt g rfl).2, fun i hi => ?_⟩
    have hg := h.cellAt i (by omega)
    rw [show (⟨g, 0 + i, none⟩ : Addr) = ⟨g, i, none⟩ by simp, hg]
    simp [List.getD, hi]
theorem grownG_trans {a b c : World} {row : Option Nat} (h : a.grownBy b row) (k : b.grownBy c row) : a.grownBy c row :=
  ⟨k.os.trans h.os, k.tape.trans h.tape, k.output.trans h.output, Nat.le_trans h.size k.size, fun i hi hr => (k.block i (Nat.lt_of_lt_of_le hi h.size) hr).trans (h.block i hi hr)⟩
theorem grownG_set {a w : World} {C : Nat} (h : a.grownBy w (some C)) (j : Nat) (v : Value) : a.grownBy (w.setCell ⟨C, j, none⟩ v) (some C) :=
  grownG_trans h ⟨rfl, rfl, rfl, by simp, fun k _ hk => Below.heap_setCell w ⟨C, j, none⟩ v k (fun e => hk (by simp [e]))⟩
theorem keepC {B : Nat} {w w' : World} {p : Addr} {v : Value} (hb : Below B w w') (hp : p.block < B) (h : w.cell? p = some v) : w'.cell? p = some v := (hb.cell hp).trans h
theorem keepF {B : Nat} {w w' : World} {p : Addr} {v : Bool} (hb : Below B w w') (hp : p.block < B) (h : w.frozen? p = v) : w'.frozen? p = v := (hb.frozen hp).trans h
/-- The cell of a variable that lies in a block of its own. -/
theorem newC (w : World) (v : Value) (t : TypeId) {n : Nat} (hn : n = w.heap.size) : (w.alloc (.cells #[v] t)).cell? ⟨n, 0, none⟩ = some v := by subst hn; simp
theorem newF (w : World) (v : Value) (t : TypeId) {n : Nat} (hn : n = w.heap.size) : (w.alloc (.cells #[v] t)).frozen? ⟨n, 0, none⟩ = false := by subst hn; simp
/-- The ints from k on. -/
def upI (k n : Nat) : List Int := (List.range n).map fun j => ((k + j : Nat) : Int)
theorem upI_len (k n : Nat) : (upI k n).length = n := by simp [upI]
theorem upI_at (k n j : Nat) (h : j < n) : (upI k n).getD j 0 = ((k + j : Nat) : Int) := by simp [upI, List.getD, h]
/-- A row whose first j ints are numbered. -/
def mixI (k : Nat) (l : List Int) (j : Nat) : List Value := ((upI k j) ++ l.drop j).map (Value.int .i64)
theorem mixI_set (k : Nat) (l : List Int) (j : Nat) (h : j < l.length) : (mixI k l j).set j (.int .i64 ((k + j : Nat) : Int)) = mixI k l (j + 1) := by
  unfold mixI
  rw [show ((k + j : Nat) : Int) = id ((k + j : Nat) : Int) from rfl, ← List.map_set]
  congr 1
  rw [List.set_append_right _ _ (by rw [upI_len]; exact Nat.le_refl _), upI_len, Nat.sub_self, List.drop_eq_getElem_cons h, List.set_cons_zero]
  simp [upI, List.range_succ]
end Go.Proofs.YtfkleihnafeoeaaGreatDoor
