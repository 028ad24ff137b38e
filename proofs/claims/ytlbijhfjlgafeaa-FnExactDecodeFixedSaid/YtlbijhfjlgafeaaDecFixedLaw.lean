/- The law's own walk: FnExactDecodeFixed answers true at every string and width. -/
import Derived.Test.YtlbijhfjlgafeaaDecFixed
namespace Go.Proofs.Ytlbijhfjlgafeaa
open Go.RowKit
theorem decFixed_walk (s : ByteArray) (hs : s.size ≤ maxLen) (n : Int) (hn : (Lit.int .i64 n).wf = true) (w : World) :
    Calls Try.prog 4 #[.string s, .int .i64 n] w fun e w' => e = .returned (.bool true) ∧ Below w.heap.size w w' := by
  have hm := hs
  unfold maxLen at hm
  by_cases hb : (1048576 : Int) < s.size
  · go_enter Try.func4, Try.ntmps4
    go_wp2
    go_ret
    exact ⟨rfl, Below.refl _ _⟩
  · have hb' : (s.size : Int) ≤ 1048576 := by omega
    by_cases h : n < 1 ∨ 7 < n ∨ (s.size : Int) < n
    · have H := Lib.hid h
      clear h hb
      go_enter Try.func4, Try.ntmps4
      go_wp2_with (first | (go_at_call 11; refine (sdec_no _ _ _ H.out).mono ?_; rintro e w' ⟨rfl, rfl⟩) | (go_at_call 12; refine (idec_no _ _ _ H.out).mono ?_; rintro e w' ⟨rfl, rfl⟩))
      go_ret
      exact ⟨rfl, Below.refl _ _⟩
    · obtain ⟨m, rfl⟩ : ∃ m : Nat, n = m := ⟨n.toNat, by omega⟩
      have h1 : 1 ≤ m := by omega
      have h2 : m ≤ 7 := by omega
      have h3 : m ≤ s.size := by omega
      clear h hb
      go_enter Try.func4, Try.ntmps4
      go_wp2_with (first | (go_at_call 11; refine (sdec_yes _ _ _ hs h1 h2 h3).mono ?_; rintro e w' ⟨rfl, rfl⟩) | (go_at_call 12; refine (idec_yes _ _ _ hs h1 h2 h3).mono ?_; rintro e w' ⟨rfl, rfl⟩))
      go_ret
      exact ⟨rfl, Below.refl _ _⟩
end Go.Proofs.Ytlbijhfjlgafeaa
