/- The contract of the program's own SetOf. -/
import Derived.Test.YtkejpikhlejmaaaGreatDoorPARA
import Derived.Test.YtkejpikhlejmaaaGreatDoorSETB
namespace Go.Proofs.YtkejpikhlejmaaaGreatDoor
open Go.RowKit
set_option maxRecDepth 1000000
theorem setS_grp {l p : List Int} (hg : grpB l = false) : setV l p = 0 ∧ setB l p = false := by
  unfold setV setB
  rw [hg, Bool.and_false]
  cases h : setS l p p.length with
  | none => exact ⟨rfl, rfl⟩
  | some s => have := setS_no hg h; subst this; exact ⟨rfl, rfl⟩
set_option maxHeartbeats 1000000 in
theorem iSetOf (w : World) (a : Option Addr) (l : List Int) (n cap : Nat) (a2 : Option Addr) (p : List Int) (n2 cap2 : Nat) (hn : n = l.length) (hm : n ≤ 9223372036854775807) (hi : Ints w a l) (hn2 : n2 = p.length) (hm2 : n2 ≤ 1048576) (hi2 : Ints w a2 p) :
    Calls Tryz.prog 9 #[.agg #[.slice a n cap], .slice a2 n2 cap2] w fun e w' => e = .returned (.tuple #[.int .i64 (setV l p), .bool (setB l p)]) ∧ Below w.heap.size w w' := by
  have HI2 := Lib.hid (ints_alloc hi2 (.cells #[.slice a n cap] 26))
  have HN2 := Lib.hid hn2
  clear hi2 hn2
  have HI := Lib.hid (ints_alloc hi (.cells #[.slice a n cap] 26))
  have HN := Lib.hid hn
  have C1 := newC w (.slice a n cap) 26 (n := w.heap.size) rfl
  have HB := Lib.hid (Joins.below_alloc1 w (.cells #[.slice a n cap] 26))
  have T0 := Lib.hid (Below.refl (w.alloc (.cells #[.slice a n cap] 26)).heap.size (w.alloc (.cells #[.slice a n cap] 26)))
  clear hi hn
  cases hg : grpB l with
  | false =>
    have HO := Lib.hid (setS_grp (p := p) hg)
    have HZ := Lib.hid (ordN_no hg)
    clear hg
    go_enter Tryz.func9, Tryz.ntmps9
    go_wp2_with (go_at_call 40; refine (iOrderOf _ _ _ _ _ HN.out hm HI.out).mono ?_; rw [HZ.out]; rintro e w1 ⟨rfl, hb1⟩)
    go_ret2
    exact ⟨by rw [HO.out.1, HO.out.2]; rfl, HB.out.trans (hb1.mono (by simp))⟩
  | true =>
    have HG := Lib.hid hg
    have HZ := Lib.hid (ordN_grp hg)
    obtain ⟨z1, z2⟩ := (ords_grp hg).prod
    obtain ⟨N, EN⟩ : ∃ N, prodI l = N := ⟨_, rfl⟩
    rw [EN] at HZ z1 z2
    have hz0 : ((N : Int) == 0) = false := by simp; omega
    clear hg
    go_enter Tryz.func9, Tryz.ntmps9
    go_upto_if 3 with (go_at_call 40; refine (iOrderOf _ _ _ _ _ HN.out hm HI.out).mono ?_; rw [HZ.out]; rintro e w1 ⟨rfl, hb1⟩; have HB1 := Lib.hid hb1; have I1 := Lib.hid (HI2.out.below rfl hb1); clear hb1)
    go_wp2
    go_loop [7, 16] (fun s i => ∃ (k : Nat) (u : Nat), k ≤ n2 ∧ i = .int .i64 k ∧ s = .int .u64 u ∧ Hid (setS l p k = some u)) (fun _ i => n2 - (intOf i).toNat)
    case atStart => exact ⟨0, 0, Nat.zero_le _, rfl, rfl, Lib.hid rfl⟩
    case round =>
      obtain ⟨k, u, hk, rfl, rfl, HS⟩ := hrel
      have HU : Hid (u < 16777216) := Lib.hid (setS_bnd HS.out)
      have hu24 := HU.out
      by_cases hlt : k < n2
      · have hkl : k < p.length := by rw [← HN2.out]; exact hlt
        rcases I1.out with h0 | ⟨b, off, h1, hbl, hc⟩
        · rw [h0] at hkl; simp at hkl
        · subst h1
          have r1 := hc k hkl
          clear hc hkl
          cases he : isE l (p.getD k 0) with
          | false =>
            have HO := Lib.hid (setS_none_r (l := l) (p := p) (setS_out (n := p.length) (setS_bad HS.out he) (by rw [← HN2.out]; exact hlt)))
            have hor : p.getD k 0 < 0 ∨ (0 ≤ p.getD k 0 ∧ N ≤ p.getD k 0) := by
              simp only [isE, HZ.out, Bool.and_eq_false_iff, decide_eq_false_iff_not] at he
              omega
            clear he
            generalize p.getD k 0 = x at *
            rcases hor with h | ⟨h, h2⟩
            · go_wp2
              go_ret2
              exact ⟨by rw [HO.out.1, HO.out.2]; rfl, HB.out.trans (HB1.out.mono (by simp))⟩
            · go_wp2
              go_ret2
              exact ⟨by rw [HO.out.1, HO.out.2]; rfl, HB.out.trans (HB1.out.mono (by simp))⟩
          | true =>
            obtain ⟨_, e0, e2, e1⟩ := isE_true he
            rw [EN] at e2
            obtain ⟨m, hmx⟩ : ∃ m : Nat, p.getD k 0 = (m : Int) := ⟨(p.getD k 0).toNat, by omega⟩
            have ht : (p.getD k 0).toNat = m := by omega
            have e3 : m ≤ 23 := by omega
            have e4 : (m : Int) < N := by omega
            have E3 := Lib.hid e3
            cases hbt : u.testBit m with
            | true =>
              have HO := Lib.hid (setS_none_r (l := l) (p := p) (setS_out (n := p.length) (setS_dup HS.out he (by rw [ht]; exact hbt)) (by rw [← HN2.out]; exact hlt)))
              have HBT := Lib.hid hbt
              rw [hmx] at r1
              clear he hbt ht e0 e1 e2 hmx
              go_wp2_with (go_at_call 41; refine (iHas _ _ _ HU.out E3.out).mono ?_; rw [HBT.out]; rintro e w3 ⟨rfl, rfl⟩)
              go_ret2
              exact ⟨by rw [HO.out.1, HO.out.2]; rfl, HB.out.trans (HB1.out.mono (by simp))⟩
            | false =>
              have HS2 : Hid (setS l p (k + 1) = some (u ||| 2 ^ m)) := Lib.hid (by rw [← add_or hbt, ← ht]; exact setS_add HS.out he (by rw [ht]; exact hbt))
              have HBT := Lib.hid hbt
              rw [hmx] at r1
              clear he hbt ht e0 e1 e2 hmx
              go_wp2_with (first
                | (go_at_call 41; refine (iHas _ _ _ HU.out E3.out).mono ?_; rw [HBT.out]; rintro e w3 ⟨rfl, rfl⟩)
                | (go_at_call 42; refine (iWith _ _ _ HU.out E3.out).mono ?_; rintro e w4 ⟨rfl, rfl⟩))
              go_round
              case rel => exact ⟨k + 1, u ||| 2 ^ m, by omega, by go_num, rfl, HS2⟩
              case measure => simp [intOf]; omega
      · obtain rfl : k = n2 := by omega
        have HS2 := HS
        rw [HN2.out] at HS2
        have HO := Lib.hid (setS_some_r HS2.out)
        clear HS2
        go_wp2
        go_ret2
        exact ⟨by rw [HO.out.1, HO.out.2, HG.out]; rfl, HB.out.trans (HB1.out.mono (by simp))⟩
end Go.Proofs.YtkejpikhlejmaaaGreatDoor
