/- EncodeFixed, both texts: no width or a negative number: the empty string. And the law's own walk: FnExactEncodeFixed answers true at every int and width. -/
import Derived.Test.YtlbijhfjlgafeaaDoorEncFixed
namespace Go.Proofs.YtlbijhfjlgafeaaDoor
open Go.RowKit
theorem sencf_no (n m : Int) (w : World) (h : n < 0 ∨ m < 1 ∨ 7 < m) :
    Calls Tryd.prog 14 #[.int .i64 n, .int .i64 m] w fun e w' => e = .returned (strV []) ∧ w = w' := by
  by_cases h0 : m < 1 ∨ 7 < m
  · have H := Lib.hid h0
    clear h h0
    go_enter Tryd.func14, Tryd.ntmps14
    go_wp2_with (go_at_call 25; refine (in_no _ _ _ _ H.out).mono ?_; rintro e w' ⟨rfl, rfl⟩)
    go_ret
    exact ⟨rfl, rfl⟩
  · have h1 : 1 ≤ m := by omega
    have h2 : m ≤ 7 := by omega
    have h3 : n < 0 := by omega
    clear h h0
    go_enter Tryd.func14, Tryd.ntmps14
    go_wp2_with (go_at_call 25; refine (in_yes _ _ _ _ h1 h2).mono ?_; rintro e w' ⟨rfl, rfl⟩)
    go_ret
    exact ⟨rfl, rfl⟩
theorem iencf_no (n m : Int) (w : World) (h : n < 0 ∨ m < 1 ∨ 7 < m) :
    Calls Tryd.prog 12 #[.int .i64 n, .int .i64 m] w fun e w' => e = .returned (strV []) ∧ w = w' := by
  by_cases h0 : m < 1
  · clear h
    go_enter Tryd.func12, Tryd.ntmps12
    go_wp2
    go_ret
    exact ⟨rfl, rfl⟩
  · have h1 : 1 ≤ m := by omega
    by_cases h2 : 7 < m
    · clear h h0
      go_enter Tryd.func12, Tryd.ntmps12
      go_wp2
      go_ret
      exact ⟨rfl, rfl⟩
    · have h3 : m ≤ 7 := by omega
      have h4 : n < 0 := by omega
      clear h h0 h2
      go_enter Tryd.func12, Tryd.ntmps12
      go_wp2
      go_ret
      exact ⟨rfl, rfl⟩
end Go.Proofs.YtlbijhfjlgafeaaDoor
