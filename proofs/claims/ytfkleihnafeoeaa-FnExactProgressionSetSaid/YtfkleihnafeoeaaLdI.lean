/- The contract of the program's own least divisor. -/
import Derived.Test.YtfkleihnafeoeaaKnDef
import Derived.Test.YtfkleihnafeoeaaGrpTri
namespace Go.Proofs.Ytfkleihnafeoeaa
open Go.RowKit
set_option maxRecDepth 1000000
theorem ldS_at {P d : Nat} (h2 : 2 ≤ d) (h : d < P) : ldS P (P - d + 1) = if P % d = 0 then d else ldS P (P - (d + 1) + 1) := by
  show (if P % (P - (P - d)) = 0 then P - (P - d) else ldS P (P - d)) = _
  rw [show P - (P - d) = d by omega, show P - (d + 1) + 1 = P - d by omega]
theorem ldS_end {P d : Nat} (h : ¬ d < P) : ldS P (P - d + 1) = P := by
  rw [show P - d + 1 = 0 + 1 by omega]
  show (if P % (P - 0) = 0 then P - 0 else ldS P 0) = P
  simp
set_option maxHeartbeats 1000000 in
theorem iLd (w : World) (P : Nat) (h1 : 1 ≤ P) (h24 : P ≤ 24) : Calls Try.prog 34 #[.int .i64 P] w fun e w' => e = .returned (.int .i64 (ldN P : Nat)) ∧ w = w' := by
  go_enter Try.func34, Try.ntmps34
  go_wp2
  go_loopw [3] (fun i wr => ∃ d : Nat, 2 ≤ d ∧ (d ≤ P ∨ P = 1) ∧ i = .int .i64 d ∧ Hid (ldN P = ldS P (P - d + 1)) ∧ w = wr) (fun i _ => P - (intOf i).toNat)
  case atStart => exact ⟨2, by omega, by omega, rfl, Lib.hid (by
    unfold ldN
    by_cases h : P = 1
    · subst h; rfl
    · rw [show P - 2 + 1 = P - 1 by omega]), rfl⟩
  case round =>
    obtain ⟨d, hd2, hdP, rfl, HL, rfl⟩ := hrel
    by_cases hlt : d < P
    · have hd24 : d ≤ 24 := by omega
      have hdi : (d : Int) < (P : Int) := by omega
      have hd0 : ((d : Int) == 0) = false := by simp; omega
      by_cases hz : P % d = 0
      · have hL := HL.out
        rw [ldS_at hd2 hlt, if_pos hz] at hL
        have hm0 : (P : Int) % (d : Int) = 0 := by omega
        have ht0 : Int.tmod (P : Int) (d : Int) = 0 := by rw [Int.tmod_eq_emod_of_nonneg (by omega)]; exact hm0
        have HL2 := Lib.hid hL
        clear HL hL hz
        go_wp2
        go_ret
        exact ⟨by rw [HL2.out]; rfl, rfl⟩
      · have hL := HL.out
        rw [ldS_at hd2 hlt, if_neg hz] at hL
        have HL2 := Lib.hid hL
        have hm0 : ((P : Int) % (d : Int) == 0) = false := by
          have : (P : Int) % (d : Int) ≠ 0 := by omega
          simpa using this
        have ht0 : (Int.tmod (P : Int) (d : Int) == 0) = false := by rw [Int.tmod_eq_emod_of_nonneg (by omega)]; exact hm0
        clear HL hL hz
        go_wp2
        go_roundw
        case rel => exact ⟨d + 1, by omega, by omega, by go_num, HL2, by first | trivial | rfl⟩
        case measure => simp [intOf]; omega
    · have hL := HL.out
      rw [ldS_end hlt] at hL
      have HL2 := Lib.hid hL
      have hdi : ¬ (d : Int) < (P : Int) := by omega
      clear HL hL
      go_wp2
      go_ret
      exact ⟨by rw [HL2.out]; rfl, rfl⟩
end Go.Proofs.Ytfkleihnafeoeaa
