/- The contract of the program's own IsGroup. -/
import Derived.Test.YticgoodmfjjggaaGreatDoorGrpImpl
namespace Go.Proofs.YticgoodmfjjggaaGreatDoor
open Go.RowKit
set_option maxRecDepth 1000000
theorem keepD {w w' : World} {p : Addr} {v : Value} (hb : Below w.heap.size w w') (h : w.cell? p = some v) : w'.cell? p = some v := keepC hb (World.block_lt_of_cell? w _ h) h
theorem isG (w : World) (a : Option Addr) (l : List Int) (n cap : Nat) (hn : n = l.length) (hm : n ≤ 9223372036854775807) (hi : Ints w a l) :
    Calls Tryz.prog 25 #[.agg #[.slice a n cap]] w fun e w' => e = .returned (.bool (grpB l)) ∧ Below w.heap.size w w' := by
  have HI := Lib.hid (ints_alloc hi (.cells #[.slice a n cap] 26))
  have HN := Lib.hid hn
  have C1 := newC w (.slice a n cap) 26 (n := w.heap.size) rfl
  have HB := Lib.hid (Joins.below_alloc1 w (.cells #[.slice a n cap] 26))
  clear hi hn
  go_enter Tryz.func25, Tryz.ntmps25
  go_wp2_with (go_at_call 69; refine (iOrders _ _ _ _ _ HN.out hm HI.out).mono ?_; rintro e w1 ⟨x, y, z, rfl, _, hb1⟩)
  go_ret
  exact ⟨rfl, HB.out.trans (Below.alloc (hb1.mono (by simp)) (Nat.le_trans (by simp) hb1.size) _)⟩
end Go.Proofs.YticgoodmfjjggaaGreatDoor
