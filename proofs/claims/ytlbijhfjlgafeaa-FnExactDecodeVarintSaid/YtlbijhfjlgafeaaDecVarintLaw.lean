/- The law's own walk: FnExactDecodeVarint answers true at every string. -/
import Derived.Test.YtlbijhfjlgafeaaDecVarintI
namespace Go.Proofs.Ytlbijhfjlgafeaa
open Go.RowKit
theorem decVarint_walk (s : ByteArray) (hs : s.size ≤ maxLen) (w : World) :
    Calls Try.prog 6 #[.string s] w fun e w' => e = .returned (.bool true) ∧ Below w.heap.size w w' := by
  have hm := hs
  unfold maxLen at hm
  by_cases hb : (1048576 : Int) < s.size
  · go_enter Try.func6, Try.ntmps6
    go_wp2
    go_ret
    exact ⟨rfl, Below.refl _ _⟩
  · have hb' : (s.size : Int) ≤ 1048576 := by omega
    clear hb
    go_enter Try.func6, Try.ntmps6
    go_wp2_with fail
    go_at_call 15
    refine (sdecv_any s _ hs).mono ?_
    rintro e w1 ⟨n, k, rfl, hR, hb1⟩
    have HR := Lib.hid hR
    clear hR
    go_wp2_with fail
    go_at_call 16
    refine (idecv_any s _ hs).mono ?_
    rintro e w2 ⟨n', k', rfl, hR', hb2⟩
    obtain ⟨rfl, rfl⟩ := HR.out.unique hR'
    have hb : Below w.heap.size w w2 := hb1.trans (hb2.mono hb1.size)
    clear hb1 hb2 HR hR'
    go_wp2
    go_ret
    exact ⟨rfl, hb⟩
end Go.Proofs.Ytlbijhfjlgafeaa
