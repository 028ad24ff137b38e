/- What a round of a range over a set's elements needs: blocks that stay, regions that defer nothing. -/
import Derived.Test.YtaacofbmbpkeoaaDoorRound
import Derived.Test.YtaacofbmbpkeoaaDoorGrpMul
namespace Go.Proofs.YtaacofbmbpkeoaaDoor
open Go.RowKit Go.Shelf
attribute [local go_sem] Oper.semAt_some
set_option maxRecDepth 1000000
/-- A block of cells stays as it is where blocks that are no cells turn. -/
theorem cells_own {β : Type} (b : Nat) (f : β → Array Value) (t : TypeId) : Own (fun (s : β) W => W.heap[b]? = some (.cells (f s) t (0, 0))) := fun s W W' row hs hg hr =>
  (hg.block b (Array.getElem?_eq_some_iff.1 hs).1 (fun e => by obtain ⟨o, ho, hc⟩ := hr b e.symm; rw [hs] at ho; cases ho; cases hc)).trans hs
def isDef : Op → Bool
  | .defer _ => true
  | _ => false
theorem no_defer {ops : Array Oper} (h : (ops.toList.all fun o => !isDef o.op) = true) : ∀ (i : Nat) (o : Oper), ops[i]? = some o → ∀ c, o.op ≠ .defer c := fun i o ho c e => by
  have h1 := List.all_eq_true.1 h o (by rw [← Array.getElem?_toList] at ho; exact List.mem_of_getElem? ho)
  rw [e] at h1
  cases h1
theorem keeps_below {W W' : World} (h : Below W.drew.heap.size W.drew W') : KeepsOthers W W' := ⟨h.size, fun k _ ho _ => (h.block k (Array.getElem?_eq_some_iff.1 ho).1).trans ho⟩
end Go.Proofs.YtaacofbmbpkeoaaDoor
