/- The contracts of the document's reading of groups (spec): orders of elements, the exponent, places. -/
import Derived.Test.YticgoodmfjjggaaGreatDoorGrpSpec4
namespace Go.Proofs.YticgoodmfjjggaaGreatDoor
open Go.RowKit
set_option maxRecDepth 1000000
theorem sOrd_no (w : World) (a : Option Addr) (l : List Int) (n cap : Nat) (x : Int) (hn : n = l.length) (hm : n ≤ 9223372036854775807) (hi : Ints w a l) (hx : isE l x = false) :
    Calls Tryz.prog 35 #[.agg #[.slice a n cap], .int .i64 x] w fun e w' => e = .returned (.int .i64 0) ∧ Below w.heap.size w w' := by
  have HI := Lib.hid (ints_alloc hi (.cells #[.slice a n cap] 26))
  have HN := Lib.hid hn
  have C1 := newC w (.slice a n cap) 26 (n := w.heap.size) rfl
  have HB := Lib.hid (Joins.below_alloc1 w (.cells #[.slice a n cap] 26))
  have HX : Hid (false = isE l x) := Lib.hid hx.symm
  clear hi hn hx
  go_enter Tryz.func35, Tryz.ntmps35
  go_wp2_with (go_at_call 71; refine (sIs _ _ _ _ _ _ _ HX.out HN.out hm HI.out).mono ?_; rintro e w1 ⟨rfl, hb1⟩; have c1 := keepC hb1 (by simp) C1)
  go_ret
  exact ⟨rfl, HB.out.trans (hb1.mono (by simp))⟩
set_option maxHeartbeats 1000000 in
theorem sOrd_yes (w : World) (a : Option Addr) (l : List Int) (n cap : Nat) (x : Int) (m : Nat) (hn : n = l.length) (hm : n ≤ 9223372036854775807) (hi : Ints w a l) (hx : isE l x = true) (ho : IsOrd l x m) :
    Calls Tryz.prog 35 #[.agg #[.slice a n cap], .int .i64 x] w fun e w' => e = .returned (.int .i64 m) ∧ Below w.heap.size w w' := by
  have HI := Lib.hid (ints_alloc hi (.cells #[.slice a n cap] 26))
  have HN := Lib.hid hn
  have C1 := newC w (.slice a n cap) 26 (n := w.heap.size) rfl
  have HB := Lib.hid (Joins.below_alloc1 w (.cells #[.slice a n cap] 26))
  have T0 := Lib.hid (Below.refl (w.alloc (.cells #[.slice a n cap] 26)).heap.size (w.alloc (.cells #[.slice a n cap] 26)))
  have HX : Hid (true = isE l x) := Lib.hid hx.symm
  have BX := Lib.hid (isE_true hx)
  have OR := Lib.hid (ords_grp BX.out.1)
  have P24 := Lib.hid OR.out.prod
  have HO := Lib.hid ho
  have hm24 := ho.2.1
  clear hi hn hx ho
  go_enter Tryz.func35, Tryz.ntmps35
  go_wp2_with (go_at_call 71; refine (sIs _ _ _ _ _ _ _ HX.out HN.out hm HI.out).mono ?_; rintro e w1 ⟨rfl, hb1⟩; have T1 := Lib.hid (T0.out.trans (hb1.mono T0.out.size)); have c1 := keepC T1.out (by simp) C1)
  go_loopw [5, 6] (fun i z wr => ∃ j : Nat, 1 ≤ j ∧ j ≤ m ∧ i = .int .i64 j ∧ z = .int .i64 (mulN l x j) ∧ Below (w.heap.size + 1) (w.alloc (.cells #[.slice a n cap] 26)) wr) (fun i _ _ => m - (intOf i).toNat)
  case atStart => exact ⟨1, Nat.le_refl _, HO.out.1, rfl, by rw [show ((1 : Nat) : Int) = 1 from rfl, mulN_one OR.out BX.out.2.1 BX.out.2.2.1], by simpa using T1.out⟩
  case round =>
    obtain ⟨j, hj1, hj, rfl, rfl, hbel⟩ := hrel
    have c4 := keepC hbel (by simp) C1
    have hx0 := BX.out.2.1
    have hx1 := BX.out.2.2.2
    by_cases hlt : j < m
    · have hz : (mulN l x j != 0) = true := by simpa using HO.out.2.2.2 j hj1 hlt
      have MB := Lib.hid (mulN_bnd OR.out x j)
      have HS := Lib.hid (mulN_succ OR.out x j)
      have hz0 := MB.out.1
      have hz1 : mulN l x j ≤ 23 := by have := MB.out.2; have := P24.out.2; omega
      generalize mulN l x j = z at *
      go_wp2_with (go_at_call 72; refine (sAdd _ _ _ _ _ _ _ hz0 hz1 hx0 hx1 HN.out BX.out.1 (HI.out.below (by simp) hbel)).mono ?_; rintro e w5 ⟨rfl, hb5⟩)
      go_roundw
      case rel => exact ⟨j + 1, by omega, by omega, by go_num, by rw [HS.out]; rfl, hbel.trans (hb5.mono (by have := hbel.size; simpa using this))⟩
      case measure => simp [intOf]; omega
    · obtain rfl : j = m := by omega
      have hz : (mulN l x j != 0) = false := by simpa using HO.out.2.2.1
      generalize mulN l x j = z at *
      go_wp2
      go_ret
      exact ⟨rfl, HB.out.trans (hbel.mono (by omega))⟩
theorem lcm_yes {E c q : Int} (hE : 1 ≤ E) (hc : 1 ≤ c) (hd : E ∣ q) (hq : 1 ≤ q) (hL : q ≤ (E.lcm c : Nat)) (h : q % c = 0) : q = (E.lcm c : Nat) := by
  obtain ⟨e, rfl⟩ : ∃ n : Nat, E = n := ⟨E.toNat, by omega⟩
  obtain ⟨d, rfl⟩ : ∃ n : Nat, c = n := ⟨c.toNat, by omega⟩
  obtain ⟨p, rfl⟩ : ∃ n : Nat, q = n := ⟨q.toNat, by omega⟩
  have h1 : e ∣ p := Int.natCast_dvd_natCast.1 hd
  have h2 : d ∣ p := Int.natCast_dvd_natCast.1 (Int.dvd_of_emod_eq_zero h)
  have h3 : Nat.lcm e d ∣ p := Nat.lcm_dvd h1 h2
  have h4 := Nat.le_of_dvd (by omega) h3
  have h5 : ((e : Int).lcm (d : Int)) = Nat.lcm e d := rfl
  rw [h5] at hL ⊢
  omega
theorem lcm_no {E c q : Int} (hE : 1 ≤ E) (hc : 1 ≤ c) (hd : E ∣ q) (hq : 1 ≤ q) (hL : q ≤ (E.lcm c : Nat)) (h : q % c ≠ 0) : E ∣ q + E ∧ q + E ≤ (E.lcm c : Nat) := by
  refine ⟨Int.dvd_add hd (Int.dvd_refl _), ?_⟩
  obtain ⟨e, rfl⟩ : ∃ n : Nat, E = n := ⟨E.toNat, by omega⟩
  obtain ⟨d, rfl⟩ : ∃ n : Nat, c = n := ⟨c.toNat, by omega⟩
  obtain ⟨p, rfl⟩ : ∃ n : Nat, q = n := ⟨q.toNat, by omega⟩
  have h5 : ((e : Int).lcm (d : Int)) = Nat.lcm e d := rfl
  rw [h5] at hL ⊢
  have h1 : e ∣ p := Int.natCast_dvd_natCast.1 hd
  have h6 : p ≠ Nat.lcm e d := by
    intro e1
    have : d ∣ p := by rw [e1]; exact Nat.dvd_lcm_right _ _
    exact h (Int.emod_eq_zero_of_dvd (Int.natCast_dvd_natCast.2 this))
  have h7 : e ∣ Nat.lcm e d - p := Nat.dvd_sub (Nat.dvd_lcm_left _ _) h1
  have h8 := Nat.le_of_dvd (by omega) h7
  omega
def expE (l : List Int) : Int := if grpB l = true then lcmK l l.length else 0
set_option maxHeartbeats 1000000 in
theorem sExp (w : World) (a : Option Addr) (l : List Int) (n cap : Nat) (hn : n = l.length) (hm : n ≤ 9223372036854775807) (hi : Ints w a l) :
    Calls Tryz.prog 12 #[.agg #[.slice a n cap]] w fun e w' => e = .returned (.int .i64 (expE l)) ∧ Below w.heap.size w w' := by
  have HI := Lib.hid (ints_alloc hi (.cells #[.slice a n cap] 26))
  have HN := Lib.hid hn
  have C1 := newC w (.slice a n cap) 26 (n := w.heap.size) rfl
  have HB := Lib.hid (Joins.below_alloc1 w (.cells #[.slice a n cap] 26))
  have T0 := Lib.hid (Below.refl (w.alloc (.cells #[.slice a n cap] 26)).heap.size (w.alloc (.cells #[.slice a n cap] 26)))
  clear hi
  cases hg : grpB l with
  | false =>
    have HG := Lib.hid hg
    rw [show expE l = 0 by unfold expE; rw [if_neg (by simp [hg])]]
    clear hg hn
    go_enter Tryz.func12, Tryz.ntmps12
    go_wp2_with (go_at_call 24; refine (sIsGroup _ _ _ _ _ HN.out hm HI.out).mono ?_; rw [HG.out]; rintro e w1 ⟨rfl, hb1⟩; have c1 := keepC hb1 (by simp) C1)
    go_ret
    exact ⟨rfl, HB.out.trans (hb1.mono (by simp))⟩
  | true =>
    have HG := Lib.hid hg
    have OR := Lib.hid (ords_grp hg)
    have HF : Hid (expE l = lcmK l n) := Lib.hid (by unfold expE; rw [if_pos hg, hn])
    have hn3 : n ≤ 3 := by rw [hn]; exact (grpB_true hg).1
    clear hg hn
    go_enter Tryz.func12, Tryz.ntmps12
    go_wp2_with (go_at_call 24; refine (sIsGroup _ _ _ _ _ HN.out hm HI.out).mono ?_; rw [HG.out]; rintro e w1 ⟨rfl, hb1⟩; have T1 := Lib.hid (T0.out.trans (hb1.mono T0.out.size)); have c1 := keepC T1.out (by simp) C1)
    have HI1 := Lib.hid (HI.out.below rfl T1.out)
    go_loop [3, 4] (fun q i => ∃ k : Nat, k ≤ n ∧ i = .int .i64 k ∧ q = .int .i64 (lcmK l k)) (fun _ i => n - (intOf i).toNat)
    case atStart => exact ⟨0, by omega, rfl, rfl⟩
    case round =>
      obtain ⟨k, hk, rfl, rfl⟩ := hrel
      by_cases hlt : k < n
      · have hkl2 : k < l.length := by rw [← HN.out]; exact hlt
        rcases HI1.out with h0 | ⟨b, off, h1, hbl, hc⟩
        · rw [h0] at hkl2; simp at hkl2
        · subst h1
          have r1 := hc k hkl2
          obtain ⟨e1, e2⟩ := lcmK_bnd OR.out k (by omega)
          obtain ⟨f1, f2⟩ := lcmK_bnd OR.out (k + 1) (by omega)
          obtain ⟨p1, p2⟩ := OR.out.PK k (by omega)
          obtain ⟨q1, q2⟩ := OR.out.PK (k + 1) (by omega)
          have e3 := Int.le_trans e2 p2
          have f3 := Int.le_trans f2 q2
          obtain ⟨o1, o2⟩ := OR.out.pos k hkl2
          have HS : Hid (lcmK l (k + 1) = ((lcmK l k).lcm (l.getD k 0) : Nat)) := Lib.hid rfl
          rw [HS.out] at f1 f3
          clear hc hkl2 e2 f2 p1 p2 q1 q2
          generalize l.getD k 0 = c at *
          generalize lcmK l k = E at *
          obtain ⟨L, HL⟩ : ∃ L : Nat, Hid (L = E.lcm c) := ⟨_, Lib.hid rfl⟩
          rw [← HL.out] at f1 f3 HS
          go_wp2
          go_loop [5] (fun q => ∃ x : Int, q = .int .i64 x ∧ Hid (E ∣ x) ∧ 1 ≤ x ∧ x ≤ L) (fun q => L - (intOf q).toNat)
          case atStart => exact ⟨E, rfl, Lib.hid (Int.dvd_refl _), e1, by
            have : E.toNat ≤ E.lcm c := by
              obtain ⟨en, rfl⟩ : ∃ n : Nat, E = n := ⟨E.toNat, by omega⟩
              obtain ⟨cn, rfl⟩ : ∃ n : Nat, c = n := ⟨c.toNat, by omega⟩
              exact Nat.le_of_dvd (Nat.lcm_pos (by omega) (by omega)) (Nat.dvd_lcm_left _ _)
            rw [HL.out]; omega⟩
          case round =>
            obtain ⟨x, rfl, HD, hx1, hx2⟩ := hrel
            by_cases hz : x % c = 0
            · have hzb : (x % c != 0) = false := by simp [hz]
              have HQ := Lib.hid (lcm_yes e1 o1 HD.out hx1 (by rw [← HL.out]; exact hx2) hz)
              clear hz
              go_wp2
              go_round
              case rel => exact ⟨k + 1, by omega, by go_num, by rw [HQ.out, HS.out, HL.out]⟩
              case measure => simp [intOf]; omega
            · have hzb : (x % c != 0) = true := by simp [hz]
              have HQ := Lib.hid (lcm_no e1 o1 HD.out hx1 (by rw [← HL.out]; exact hx2) hz)
              have hq2 := HQ.out.2
              rw [← HL.out] at hq2
              clear hz
              go_wp2
              go_round
              case rel => exact ⟨x + E, by go_num, Lib.hid HQ.out.1, by omega, hq2⟩
              case measure => simp [intOf]; omega
      · obtain rfl : k = n := by omega
        go_wp2
        go_ret
        exact ⟨by rw [HF.out]; rfl, HB.out.trans (T1.out.mono (by simp))⟩
end Go.Proofs.YticgoodmfjjggaaGreatDoor
