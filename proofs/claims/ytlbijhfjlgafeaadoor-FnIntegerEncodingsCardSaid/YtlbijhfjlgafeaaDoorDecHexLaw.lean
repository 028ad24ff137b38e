/- The law's own walk: FnExactDecodeHex answers true at every string. -/
import Derived.Test.YtlbijhfjlgafeaaDoorDecHexI
namespace Go.Proofs.YtlbijhfjlgafeaaDoor
open Go.RowKit
/-- One of the two answers, and which one, is fixed by the string. -/
theorem ans_hex (l : List UInt8) : ∃ (A : ByteArray) (B : Bool), ∀ (W : Nat) (w w' : World) (e : Ending), PostHex l W w e w' → e = .returned (.tuple #[.string A, .bool B]) ∧ Below W w w' := by
  by_cases hh : IsHex l
  · refine ⟨bs (decL l (l.length / 2)), true, fun W w w' e h => ?_⟩
    obtain ⟨hb, ⟨_, rfl⟩ | ⟨h2, _⟩⟩ := h
    · exact ⟨rfl, hb⟩
    · exact absurd hh h2
  · refine ⟨bs [], false, fun W w w' e h => ?_⟩
    obtain ⟨hb, ⟨h2, _⟩ | ⟨_, rfl⟩⟩ := h
    · exact absurd h2 hh
    · exact ⟨rfl, hb⟩
theorem idech_any (s : ByteArray) (w : World) (hs : s.size ≤ 1048576) :
    Calls Tryd.prog 16 #[.string s] w (PostHex s.data.toList w.heap.size w) := by
  by_cases h : s.size % 2 = 1
  · exact idech_odd s w hs h
  · exact idech_even s w hs (by omega)
end Go.Proofs.YtlbijhfjlgafeaaDoor
