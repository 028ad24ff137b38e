/- EncodeFixed, both texts: no width or a negative number: the empty string. And the law's own walk: FnExactEncodeFixed answers true at every int and width. -/
import Derived.Test.YtlbijhfjlgafeaaEncFixed
namespace Go.Proofs.Ytlbijhfjlgafeaa
open Go.RowKit
theorem sencf_no (n m : Int) (w : World) (h : n < 0 ∨ m < 1 ∨ 7 < m) :
    Calls Try.prog 9 #[.int .i64 n, .int .i64 m] w fun e w' => e = .returned (strV []) ∧ w = w' := by
  by_cases h0 : m < 1 ∨ 7 < m
  · have H := Lib.hid h0
    clear h h0
    go_enter Try.func9, Try.ntmps9
    go_wp2_with (go_at_call 21; refine (in_no _ _ _ _ H.out).mono ?_; rintro e w' ⟨rfl, rfl⟩)
    go_ret
    exact ⟨rfl, rfl⟩
  · have h1 : 1 ≤ m := by omega
    have h2 : m ≤ 7 := by omega
    have h3 : n < 0 := by omega
    clear h h0
    go_enter Try.func9, Try.ntmps9
    go_wp2_with (go_at_call 21; refine (in_yes _ _ _ _ h1 h2).mono ?_; rintro e w' ⟨rfl, rfl⟩)
    go_ret
    exact ⟨rfl, rfl⟩
theorem iencf_no (n m : Int) (w : World) (h : n < 0 ∨ m < 1 ∨ 7 < m) :
    Calls Try.prog 10 #[.int .i64 n, .int .i64 m] w fun e w' => e = .returned (strV []) ∧ w = w' := by
  by_cases h0 : m < 1
  · clear h
    go_enter Try.func10, Try.ntmps10
    go_wp2
    go_ret
    exact ⟨rfl, rfl⟩
  · have h1 : 1 ≤ m := by omega
    by_cases h2 : 7 < m
    · clear h h0
      go_enter Try.func10, Try.ntmps10
      go_wp2
      go_ret
      exact ⟨rfl, rfl⟩
    · have h3 : m ≤ 7 := by omega
      have h4 : n < 0 := by omega
      clear h h0 h2
      go_enter Try.func10, Try.ntmps10
      go_wp2
      go_ret
      exact ⟨rfl, rfl⟩
theorem encFixed_walk (n : Int) (hn : (Lit.int .i64 n).wf = true) (m : Int) (_hm : (Lit.int .i64 m).wf = true) (w : World) :
    Calls Try.prog 3 #[.int .i64 n, .int .i64 m] w fun e w' => e = .returned (.bool true) ∧ Below w.heap.size w w' := by
  by_cases h : n < 0 ∨ m < 1 ∨ 7 < m
  · have H := Lib.hid h
    clear h
    go_enter Try.func3, Try.ntmps3
    go_wp2_with (first | (go_at_call 9; refine (sencf_no _ _ _ H.out).mono ?_; rintro e w' ⟨rfl, rfl⟩) | (go_at_call 10; refine (iencf_no _ _ _ H.out).mono ?_; rintro e w' ⟨rfl, rfl⟩))
    go_ret
    exact ⟨rfl, Below.refl _ _⟩
  · have hx : n ≤ 9223372036854775807 := by simp [Lit.wf, IntKind.min, IntKind.max, IntKind.bits, IntKind.signed] at hn; omega
    obtain ⟨N, rfl⟩ : ∃ N : Nat, n = N := ⟨n.toNat, by omega⟩
    obtain ⟨M, rfl⟩ : ∃ M : Nat, m = M := ⟨m.toNat, by omega⟩
    have hN : N ≤ 9223372036854775807 := by omega
    have h1 : 1 ≤ M := by omega
    have h7 : M ≤ 7 := by omega
    clear h hx hn _hm
    obtain ⟨X, hX⟩ : ∃ X, (if 0 < sh N M then [] else bigB N M) = X := ⟨_, rfl⟩
    have HS : Hid (∀ w, Calls Try.prog 9 #[.int .i64 N, .int .i64 M] w fun e w' => e = .returned (strV X) ∧ Below w.heap.size w w') := Lib.hid (fun w => by rw [← hX]; exact sencf_any N M w hN h1 h7)
    have HI : Hid (∀ w, Calls Try.prog 10 #[.int .i64 N, .int .i64 M] w fun e w' => e = .returned (strV X) ∧ Below w.heap.size w w') := Lib.hid (fun w => by rw [← hX]; exact iencf_any N M w hN h1 h7)
    clear hX
    go_enter Try.func3, Try.ntmps3
    go_wp2_with fail
    go_at_call 9
    refine (HS.out _).mono ?_
    rintro e w1 ⟨rfl, hb1⟩
    go_wp2_with fail
    go_at_call 10
    refine (HI.out _).mono ?_
    rintro e w2 ⟨rfl, hb2⟩
    have hb : Below w.heap.size w w2 := hb1.trans (hb2.mono hb1.size)
    clear hb1 hb2
    go_wp2
    go_ret
    exact ⟨rfl, hb⟩
end Go.Proofs.Ytlbijhfjlgafeaa
