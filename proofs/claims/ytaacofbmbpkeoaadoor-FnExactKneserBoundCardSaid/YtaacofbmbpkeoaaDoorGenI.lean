/- The program's own subgroups: a subgroup and one element more. -/
import Derived.Test.YtaacofbmbpkeoaaDoorPERA
import Derived.Test.YtaacofbmbpkeoaaDoorSumK
namespace Go.Proofs.YtaacofbmbpkeoaaDoor
open Go.RowKit Go.Shelf
attribute [local go_sem] Oper.semAt_some
set_option maxRecDepth 1000000
theorem orU' {a b n : Nat} (hn : n ≤ 24) (ha : a < 2 ^ n) (hb : b < 2 ^ n) : bits .or .u64 (a : Int) (b : Int) = ((a ||| b : Nat) : Int) := by
  have h := Nat.pow_le_pow_right (show 0 < 2 by decide) hn
  exact orU a b (Nat.lt_of_lt_of_le ha h) (Nat.lt_of_lt_of_le hb h)
/-- The program's shift of a set, by the group's places. -/
theorem iMov {l : List Int} (hg : grpB l = true) (w : World) (s x : Nat) (hs : s < 2 ^ (prodI l).toNat) (hx : (x : Int) < prodI l) :
    Calls Tryd.prog 60 #[tV (l.getD 0 1) (l.getD 1 1) (l.getD 2 1), .int .u64 s, .int .i64 x] w fun e w' => e = .returned (.int .u64 (movN l s x : Nat)) ∧ Below w.heap.size w w' := by
  have HP := prod_pad (grpB_true hg).1
  have h := iShG w (l.getD 0 1) (l.getD 1 1) (l.getD 2 1) s x (tri_grp hg) (by rw [← HP]; exact hs) (by rw [← HP]; exact hx)
  rw [shG_mov hg] at h
  exact h
end Go.Proofs.YtaacofbmbpkeoaaDoor
