/- The law's own walk: FnExactEncodeHex answers true at every string. -/
import Derived.Test.YtlbijhfjlgafeaaEncHex
namespace Go.Proofs.Ytlbijhfjlgafeaa
open Go.RowKit
theorem encHex_walk (s : ByteArray) (hs : s.size ≤ maxLen) (w : World) :
    Calls Try.prog 7 #[.string s] w fun e w' => e = .returned (.bool true) ∧ Below w.heap.size w w' := by
  have hm := hs
  unfold maxLen at hm
  by_cases hb : (1048576 : Int) < s.size
  · go_enter Try.func7, Try.ntmps7
    go_wp2
    go_ret
    exact ⟨rfl, Below.refl _ _⟩
  · have hb' : (s.size : Int) ≤ 1048576 := by omega
    have hb2 : s.size ≤ 1048576 := by omega
    clear hb
    go_enter Try.func7, Try.ntmps7
    go_wp2_with fail
    go_at_call 17
    refine (sench_any s _ hb2).mono ?_
    rintro e w1 ⟨rfl, hb1⟩
    go_wp2_with fail
    go_at_call 18
    refine (iench_any s _ hb2).mono ?_
    rintro e w2 ⟨rfl, hb2⟩
    have hb : Below w.heap.size w w2 := hb1.trans (hb2.mono hb1.size)
    clear hb1 hb2
    go_wp2
    go_ret
    exact ⟨rfl, hb⟩
end Go.Proofs.Ytlbijhfjlgafeaa
