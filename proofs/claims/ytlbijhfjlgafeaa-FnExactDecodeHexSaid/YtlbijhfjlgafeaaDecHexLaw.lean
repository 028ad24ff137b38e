/- The law's own walk: FnExactDecodeHex answers true at every string. -/
import Derived.Test.YtlbijhfjlgafeaaDecHexI
namespace Go.Proofs.Ytlbijhfjlgafeaa
open Go.RowKit
/-- One of the two answers, and which one, is fixed by the string. -/
theorem ans_hex (l : List UInt8) : ∃ (A : ByteArray) (B : Bool), ∀ (W : Nat) (w w' : World) (e : Ending), PostHex l W w e w' → e = .returned (.tuple #[.string A, .bool B]) ∧ Below W w w' := by
  by_cases hh : IsHex l
  · refine ⟨bs (decL l (l.length / 2)), true, fun W w w' e h => ?_⟩
    obtain ⟨hb, ⟨_, rfl⟩ | ⟨h2, _⟩⟩ := h
    · exact ⟨rfl, hb⟩
    · exact absurd hh h2
  · refine ⟨bs [], false, fun W w w' e h => ?_⟩
    obtain ⟨hb, ⟨h2, _⟩ | ⟨_, rfl⟩⟩ := h
    · exact absurd h2 hh
    · exact ⟨rfl, hb⟩
theorem sdech_any (s : ByteArray) (w : World) (hs : s.size ≤ 1048576) :
    Calls Try.prog 19 #[.string s] w (PostHex s.data.toList w.heap.size w) := by
  by_cases h : s.size % 2 = 1
  · exact sdech_odd s w hs h
  · exact sdech_even s w hs (by omega)
theorem idech_any (s : ByteArray) (w : World) (hs : s.size ≤ 1048576) :
    Calls Try.prog 20 #[.string s] w (PostHex s.data.toList w.heap.size w) := by
  by_cases h : s.size % 2 = 1
  · exact idech_odd s w hs h
  · exact idech_even s w hs (by omega)
theorem decHex_walk (s : ByteArray) (hs : s.size ≤ maxLen) (w : World) :
    Calls Try.prog 8 #[.string s] w fun e w' => e = .returned (.bool true) ∧ Below w.heap.size w w' := by
  have hm := hs
  unfold maxLen at hm
  by_cases hb : (1048576 : Int) < s.size
  · go_enter Try.func8, Try.ntmps8
    go_wp2
    go_ret
    exact ⟨rfl, Below.refl _ _⟩
  · have hb' : (s.size : Int) ≤ 1048576 := by omega
    have hb2 : s.size ≤ 1048576 := by omega
    clear hb
    obtain ⟨A, B, hAB⟩ := ans_hex s.data.toList
    have HS : Hid (∀ w, Calls Try.prog 19 #[.string s] w fun e w' => e = .returned (.tuple #[.string A, .bool B]) ∧ Below w.heap.size w w') := Lib.hid (fun w => (sdech_any s w hb2).mono fun e w' h => hAB _ _ _ _ h)
    have HI : Hid (∀ w, Calls Try.prog 20 #[.string s] w fun e w' => e = .returned (.tuple #[.string A, .bool B]) ∧ Below w.heap.size w w') := Lib.hid (fun w => (idech_any s w hb2).mono fun e w' h => hAB _ _ _ _ h)
    clear hAB
    go_enter Try.func8, Try.ntmps8
    go_wp2_with fail
    go_at_call 19
    refine (HS.out _).mono ?_
    rintro e w1 ⟨rfl, hb1⟩
    go_wp2_with fail
    go_at_call 20
    refine (HI.out _).mono ?_
    rintro e w2 ⟨rfl, hb2⟩
    have hb : Below w.heap.size w w2 := hb1.trans (hb2.mono hb1.size)
    clear hb1 hb2
    cases B <;> go_wp2 <;> go_ret <;> exact ⟨rfl, hb⟩
end Go.Proofs.Ytlbijhfjlgafeaa
