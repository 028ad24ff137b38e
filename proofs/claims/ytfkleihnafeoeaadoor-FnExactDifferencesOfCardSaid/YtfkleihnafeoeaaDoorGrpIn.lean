/- The contracts of the program's own functions on groups: IsGroup, OrderOf, the places of an element. -/
import Derived.Test.YtfkleihnafeoeaaDoorGrpTri
namespace Go.Proofs.YtfkleihnafeoeaaDoor
open Go.RowKit
set_option maxRecDepth 1000000
theorem iOrderOf (w : World) (a : Option Addr) (l : List Int) (n cap : Nat) (hn : n = l.length) (hm : n ≤ 9223372036854775807) (hi : Ints w a l) :
    Calls Tryd.prog 53 #[.agg #[.slice a n cap]] w fun e w' => e = .returned (.int .i64 (ordN l)) ∧ Below w.heap.size w w' := by
  have HI := Lib.hid (ints_alloc hi (.cells #[.slice a n cap] 27))
  have HN := Lib.hid hn
  have C1 := newC w (.slice a n cap) 27 (n := w.heap.size) rfl
  have HB := Lib.hid (Joins.below_alloc1 w (.cells #[.slice a n cap] 27))
  have T0 := Lib.hid (Below.refl (w.alloc (.cells #[.slice a n cap] 27)).heap.size (w.alloc (.cells #[.slice a n cap] 27)))
  clear hi hn
  cases hg : grpB l with
  | false =>
    have HG := Lib.hid hg
    rw [ordN_no hg]
    clear hg
    go_enter Tryd.func53, Tryd.ntmps53
    go_wp2_with (go_at_call 45; refine (iOrders _ _ _ _ _ HN.out hm HI.out).mono ?_; unfold OrdersPost; rw [HG.out]; rintro e w1 ⟨x, y, z, rfl, _, hb1⟩)
    go_ret
    exact ⟨rfl, HB.out.trans ((hb1.mono (by simp)).alloc (Nat.le_trans (by simp) hb1.size) _)⟩
  | true =>
    have HG := Lib.hid hg
    have HT := Lib.hid (tri_grp hg)
    rw [ordN_grp hg, prod_pad (grpB_true hg).1]
    clear hg
    go_enter Tryd.func53, Tryd.ntmps53
    go_wp2_with (first
      | (go_at_call 40; refine (iProduct _ _ _ _ HT.out).mono ?_; rintro e w2 ⟨rfl, hb2⟩)
      | (go_at_call 45; refine (iOrders _ _ _ _ _ HN.out hm HI.out).mono ?_; unfold OrdersPost; rw [HG.out]; rintro e w1 ⟨x, y, z, rfl, hxyz, hb1⟩; obtain ⟨rfl, rfl, rfl⟩ := hxyz rfl; clear hxyz))
    go_ret
    exact ⟨rfl, HB.out.trans (((hb1.mono (by simp)).alloc (Nat.le_trans (by simp) hb1.size) _).trans (hb2.mono (by have := hb1.size; simp at *; omega)))⟩
theorem keepH {B k : Nat} {w w' : World} {o : Obj} (hb : Below B w w') (hk : k < B) (h : w.heap[k]? = some o) : w'.heap[k]? = some o := (hb.block k hk).trans h
end Go.Proofs.YtfkleihnafeoeaaDoor
