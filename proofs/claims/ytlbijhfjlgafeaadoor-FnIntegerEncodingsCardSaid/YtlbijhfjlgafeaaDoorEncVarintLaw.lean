/- EncodeVarint, both texts: out of range they answer the empty string. And the law's own walk: FnExactEncodeVarint answers true at every int. -/
import Derived.Test.YtlbijhfjlgafeaaDoorEncVarint
namespace Go.Proofs.YtlbijhfjlgafeaaDoor
open Go.RowKit
theorem ienc_no (n : Int) (w : World) (h : n < 0 ∨ 562949953421311 < n) :
    Calls Tryd.prog 9 #[.int .i64 n] w fun e w' => e = .returned (strV []) ∧ w = w' := by
  by_cases h0 : n < 0
  · clear h
    go_enter Tryd.func9, Tryd.ntmps9
    go_wp2
    go_ret
    exact ⟨rfl, rfl⟩
  · have h1 : 562949953421311 < n := by omega
    have h0' : 0 ≤ n := by omega
    clear h h0
    go_enter Tryd.func9, Tryd.ntmps9
    go_wp2
    go_ret
    exact ⟨rfl, rfl⟩
end Go.Proofs.YtlbijhfjlgafeaaDoor
