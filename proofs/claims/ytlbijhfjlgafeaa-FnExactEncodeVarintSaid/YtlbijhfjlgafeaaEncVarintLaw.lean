/- EncodeVarint, both texts: out of range they answer the empty string. And the law's own walk: FnExactEncodeVarint answers true at every int. -/
import Derived.Test.YtlbijhfjlgafeaaEncVarint
namespace Go.Proofs.Ytlbijhfjlgafeaa
open Go.RowKit
theorem senc_no (n : Int) (w : World) (h : n < 0 ∨ 562949953421311 < n) :
    Calls Try.prog 13 #[.int .i64 n] w fun e w' => e = .returned (strV []) ∧ w = w' := by
  have H := Lib.hid h
  clear h
  go_enter Try.func13, Try.ntmps13
  go_wp2_with (go_at_call 21; refine (in_no _ _ _ _ H.out).mono ?_; rintro e w' ⟨rfl, rfl⟩)
  go_ret
  exact ⟨rfl, rfl⟩
theorem ienc_no (n : Int) (w : World) (h : n < 0 ∨ 562949953421311 < n) :
    Calls Try.prog 14 #[.int .i64 n] w fun e w' => e = .returned (strV []) ∧ w = w' := by
  by_cases h0 : n < 0
  · clear h
    go_enter Try.func14, Try.ntmps14
    go_wp2
    go_ret
    exact ⟨rfl, rfl⟩
  · have h1 : 562949953421311 < n := by omega
    have h0' : 0 ≤ n := by omega
    clear h h0
    go_enter Try.func14, Try.ntmps14
    go_wp2
    go_ret
    exact ⟨rfl, rfl⟩
theorem encVarint_walk (n : Int) (hn : (Lit.int .i64 n).wf = true) (w : World) :
    Calls Try.prog 5 #[.int .i64 n] w fun e w' => e = .returned (.bool true) ∧ Below w.heap.size w w' := by
  by_cases h : n < 0 ∨ 562949953421311 < n
  · have H := Lib.hid h
    clear h
    go_enter Try.func5, Try.ntmps5
    go_wp2_with (first | (go_at_call 13; refine (senc_no _ _ H.out).mono ?_; rintro e w' ⟨rfl, rfl⟩) | (go_at_call 14; refine (ienc_no _ _ H.out).mono ?_; rintro e w' ⟨rfl, rfl⟩))
    go_ret
    exact ⟨rfl, Below.refl _ _⟩
  · obtain ⟨m, rfl⟩ : ∃ m : Nat, n = m := ⟨n.toNat, by omega⟩
    have hm : m ≤ 562949953421311 := by omega
    clear h
    go_enter Try.func5, Try.ntmps5
    go_wp2_with fail
    go_at_call 13
    refine (senc_any m _ hm).mono ?_
    rintro e w1 ⟨rfl, hb1⟩
    go_wp2_with fail
    go_at_call 14
    refine (ienc_any m _ hm).mono ?_
    rintro e w2 ⟨rfl, hb2⟩
    have hb : Below w.heap.size w w2 := hb1.trans (hb2.mono hb1.size)
    clear hb1 hb2
    go_wp2
    go_ret
    exact ⟨rfl, hb⟩
end Go.Proofs.Ytlbijhfjlgafeaa
