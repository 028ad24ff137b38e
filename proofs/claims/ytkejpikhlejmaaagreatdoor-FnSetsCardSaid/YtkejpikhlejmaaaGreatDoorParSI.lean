/- The contract of the program's own ParseSet, and of the library's slices.IsSorted at ints. -/
import Derived.Test.YtkejpikhlejmaaaGreatDoorPARA
import Derived.Test.YtkejpikhlejmaaaGreatDoorParGI
import Derived.Test.YtkejpikhlejmaaaGreatDoorSetOfI
import Derived.Deep.LoopGhost
import Derived.Deep.Draws
import Derived.Deep.QuietTactic
namespace Go.Proofs.YtkejpikhlejmaaaGreatDoor
open Go.RowKit
set_option maxRecDepth 1000000
theorem below_drewN {B : Nat} {a w : World} (h : Below B a w) (n : Nat) : Below B a (w.drewN n) := ⟨h.os, h.tape, h.output, h.size, h.block⟩
theorem iNaN (w : World) (x : Int) :
    Calls Tryz.prog 93 #[.int .i64 x] w fun e w' => e = .returned (.bool false) ∧ w = w' := by
  go_enter Tryz.func93, Tryz.ntmps93
  go_wp2
  go_ret
  exact ⟨by simp, rfl⟩
theorem iLess (w : World) (x y : Int) :
    Calls Tryz.prog 74 #[.int .i64 x, .int .i64 y] w fun e w' => e = .returned (.bool (decide (x < y))) ∧ w' = w := by
  go_enter Tryz.func74, Tryz.ntmps74
  go_wp2_with (go_at_call 93; refine (iNaN _ _).mono ?_; rintro e w1 ⟨rfl, rfl⟩)
  go_ret
  exact ⟨rfl, rfl⟩
set_option maxHeartbeats 4000000 in
theorem iSorted (w : World) (a : Option Addr) (p : List Int) (n cap : Nat) (hn : n = p.length) (hm : n ≤ 1048576) (hi : Ints w a p) :
    Calls Tryz.prog 39 #[.slice a n cap] w fun e w' => e = .returned (.bool (srt p)) ∧ Below w.heap.size w w' := by
  have HI := Lib.hid hi
  have HN := Lib.hid hn
  clear hi hn
  have mixed : Tryz.prog.follows .mixedOrders = true := by rfl
  go_enter Tryz.func39, Tryz.ntmps39
  go_wp2
  go_loopw [3] (fun i wr => ∃ k : Int, i = .int .i64 k ∧ -1 ≤ k ∧ k ≤ (n : Int) - 1 ∧ Hid (∀ j : Nat, k ≤ (j : Int) → j + 1 < p.length → p.getD j 0 ≤ p.getD (j + 1) 0) ∧ Below w.heap.size w wr) (fun i _ => (intOf i + 1).toNat)
  case atStart => exact ⟨_, rfl, by omega, by omega, Lib.hid (fun j h1 h2 => by have := HN.out; omega), Below.refl _ _⟩
  case round =>
    obtain ⟨k, rfl, h1, h2, HS, hbel⟩ := hrel
    by_cases hk : 0 < k
    · obtain ⟨t, rfl⟩ : ∃ t : Nat, k = (t : Int) + 1 := ⟨(k - 1).toNat, by omega⟩
      have hkl : t + 1 < p.length := by have := HN.out; omega
      have HBL := Lib.hid hbel
      rcases HI.out with h0 | ⟨b, off, ha, hbl, hc⟩
      · rw [h0] at hkl; simp at hkl
      · subst ha
        have d1 : ∀ q, (wr.drewN q).cell? ⟨b, off + (t + 1), none⟩ = some (.int .i64 (p.getD (t + 1) 0)) := fun q => by simpa using keepC hbel hbl (hc (t + 1) hkl)
        have d0 : ∀ q, (wr.drewN q).cell? ⟨b, off + t, none⟩ = some (.int .i64 (p.getD t 0)) := fun q => by simpa using keepC hbel hbl (hc t (by omega))
        obtain ⟨x, hx⟩ : ∃ x, p.getD (t + 1) 0 = x := ⟨_, rfl⟩
        obtain ⟨y, hy⟩ : ∃ y, p.getD t 0 = y := ⟨_, rfl⟩
        have HXY := Lib.hid (And.intro hx hy)
        rw [hx] at d1
        rw [hy] at d0
        have HKL := Lib.hid hkl
        clear hc hbel hx hy
        obtain ⟨iN, hiN⟩ : ∃ q, q = t + 1 := ⟨_, rfl⟩
        obtain ⟨jN, hjN⟩ : ∃ q, q = t := ⟨_, rfl⟩
        have ea : ((t : Int) + 1).toNat = iN := by omega
        have pa : (0 : Int) ≤ (t : Int) + 1 := by omega
        have ba : (t : Int) + 1 < (n : Int) := by have := HN.out; omega
        have ra : IntKind.i64.wrap ((t : Int) + 1) = (t : Int) + 1 := by rw [IntKind.wrap_i64]; omega
        have ec : ((t : Int)).toNat = jN := by omega
        have pc : (0 : Int) ≤ (t : Int) := by omega
        have bc : (t : Int) < (n : Int) := by omega
        have rc : IntKind.i64.wrap ((t : Int)) = (t : Int) := by rw [IntKind.wrap_i64]; omega
        have la : ∀ q, (wr.drewN q).cell? ⟨b, off + iN, none⟩ = some (.int .i64 x) := by rw [hiN]; exact d1
        have lb : ∀ q, (wr.drewN q).cell? ⟨b, off + jN, none⟩ = some (.int .i64 y) := by rw [hjN]; exact d0
        clear hiN hjN d1 d0 hkl
        by_cases hlt : x < y
        · have HF : Hid (srt p = false) := Lib.hid (by
            cases hs : srt p with
            | false => rfl
            | true =>
              have := (srt_iff p).1 hs t HKL.out
              rw [HXY.out.1, HXY.out.2] at this; omega)
          have hlv : decide (x < y) = true := decide_eq_true hlt
          go_wp2_with fail
          go_quiet_o (first | (go_at_call 74; refine Calls.quiet_of_same (iLess _ _ _)))
          clear la lb ea ec
          go_wp2
          go_ret
          refine ⟨by rw [HF.out, hlv]; rfl, below_drewN HBL.out _⟩
        · have hlv : decide (x < y) = false := decide_eq_false hlt
          have HS2 : Hid (∀ j : Nat, (t : Int) ≤ (j : Int) → j + 1 < p.length → p.getD j 0 ≤ p.getD (j + 1) 0) := Lib.hid (fun j h3 h4 => by
            rcases Nat.lt_or_ge t j with h | h
            · exact HS.out j (by omega) h4
            · obtain rfl : j = t := by omega
              rw [HXY.out.1, HXY.out.2]; omega)
          go_wp2_with fail
          go_quiet_o (first | (go_at_call 74; refine Calls.quiet_of_same (iLess _ _ _)))
          clear la lb ea ec
          go_wp2
          go_roundw
          case rel => exact ⟨(t : Int), by go_num, by omega, by omega, HS2, below_drewN HBL.out _⟩
          case measure => simp [intOf]; omega
    · have HF : Hid (srt p = true) := Lib.hid ((srt_iff p).2 (fun j hj => HS.out j (by omega) hj))
      have HBL := Lib.hid hbel
      clear hbel
      go_wp2
      go_ret
      exact ⟨by rw [HF.out]; rfl, HBL.out⟩
theorem setB_no {l p : List Int} (h : setB l p = false) : setV l p = 0 := by
  cases hg : grpB l with
  | false => exact (setS_grp hg).1
  | true =>
    unfold setB at h
    rw [hg, Bool.and_true] at h
    unfold setV
    cases hs : setS l p p.length with
    | none => rfl
    | some s => rw [hs] at h; cases h
/-- What both readings of a set answer. -/
def SetAns (r : Option Nat) (w : World) (e : Ending) (w' : World) : Prop := e = .returned (.tuple #[.int .i64 ((r.getD 0 : Nat) : Int), .bool r.isSome]) ∧ Below w.heap.size w w'
set_option maxHeartbeats 1000000 in
theorem iParS (w : World) (a : Option Addr) (l : List Int) (n cap : Nat) (s : ByteArray) (m : Int) (hn : n = l.length) (hm : n ≤ 9223372036854775807) (hi : Ints w a l) (hs : s.size ≤ 1048576) (hv : w.cell? ⟨0, 0, none⟩ = some (.int .i64 m)) (ht : TabOn w.heap.size w) :
    Calls Tryz.prog 7 #[.agg #[.slice a n cap], .string s] w (SetAns (implPS l s.data.toList) w) := by
  have HV := Lib.hid hv
  have HTB := Lib.hid ht
  clear hv ht
  have HI := Lib.hid (ints_alloc hi (.cells #[.slice a n cap] 26))
  have HN := Lib.hid hn
  have C1 := newC w (.slice a n cap) 26 (n := w.heap.size) rfl
  have HB := Lib.hid (Joins.below_alloc1 w (.cells #[.slice a n cap] 26))
  have T0 := Lib.hid (Below.refl (w.alloc (.cells #[.slice a n cap] 26)).heap.size (w.alloc (.cells #[.slice a n cap] 26)))
  clear hi hn
  unfold SetAns
  by_cases hno : s.data.toList = noneT
  · have hq : (s.toList == [110, 111, 110, 101]) = true := by rw [Lib.toList_data, hno]; rfl
    obtain ⟨b, HGB⟩ : ∃ b, Hid (grpB l = b) := ⟨_, Lib.hid rfl⟩
    have HR : Hid (implPS l s.data.toList = if b = true then some 0 else none) := Lib.hid (by unfold implPS; rw [if_pos hno, HGB.out])
    clear hno
    cases b with
    | true =>
      go_enter Tryz.func7, Tryz.ntmps7
      go_wp2_with (go_at_call 37; refine (isG _ _ _ _ _ HN.out hm (HI.out.below rfl T0.out)).mono ?_; rw [HGB.out]; rintro e w1 ⟨rfl, hb1⟩)
      go_ret2
      exact ⟨by rw [HR.out]; rfl, HB.out.trans (hb1.mono (by simp))⟩
    | false =>
      go_enter Tryz.func7, Tryz.ntmps7
      go_wp2_with (go_at_call 37; refine (isG _ _ _ _ _ HN.out hm (HI.out.below rfl T0.out)).mono ?_; rw [HGB.out]; rintro e w1 ⟨rfl, hb1⟩)
      go_ret2
      exact ⟨by rw [HR.out]; rfl, HB.out.trans (hb1.mono (by simp))⟩
  · have hq : (s.toList == [110, 111, 110, 101]) = false := by rw [Lib.toList_data]; simpa [noneT] using hno
    have HS := Lib.hid (iSplit 44 24 (by decide) (by decide) s m (w.alloc (.cells #[.slice a n cap] 26)) hs (keepD HB.out HV.out) ((HTB.out.on HB.out).up (by simp)))
    have HR0 : Hid (implPS l s.data.toList = (match splR 44 24 s.data.toList with
        | none => none
        | some vs => if srt vs = true then (if setB l vs = true then setS l vs vs.length else none) else none)) := Lib.hid (by unfold implPS; rw [if_neg hno]; cases splR 44 24 s.data.toList <;> rfl)
    clear hno
    cases hr : splR 44 24 s.data.toList with
    | none =>
      have HR : Hid (implPS l s.data.toList = none) := Lib.hid (by rw [HR0.out]; simp only [hr])
      rw [hr] at HS
      clear hr
      go_enter Tryz.func7, Tryz.ntmps7
      go_wp2_with (go_at_call 38; refine HS.out.mono ?_; rintro e w3 ⟨u, rfl, ho3, hb3⟩; obtain ⟨au, cu, rfl⟩ := own_slice' (l := []) rfl ho3; clear ho3)
      go_ret2
      exact ⟨by rw [HR.out]; rfl, HB.out.trans (hb3.mono (by simp))⟩
    | some vs =>
      have HL : Hid (vs.length ≤ 24) := Lib.hid (by
        unfold splR at hr
        split at hr
        · next h1 =>
          split at hr
          · cases hr; rw [List.length_map]; omega
          · cases hr
        · cases hr)
      have HR1 : Hid (implPS l s.data.toList = if srt vs = true then (if setB l vs = true then setS l vs vs.length else none) else none) := Lib.hid (by rw [HR0.out]; simp only [hr])
      rw [hr] at HS
      clear hr
      have hv24 := HL.out
      cases hst : srt vs with
      | false =>
        have HST := Lib.hid hst
        have HR : Hid (implPS l s.data.toList = none) := Lib.hid (by rw [HR1.out, hst]; rfl)
        clear hst
        go_enter Tryz.func7, Tryz.ntmps7
        go_wp2_with (first
          | (go_at_call 39; refine (iSorted _ _ vs _ _ rfl (by omega) HIV.out).mono ?_; rw [HST.out]; rintro e w4 ⟨rfl, hb4⟩; have T4 := Lib.hid (T3.out.trans (hb4.mono T3.out.size)); have c4 := keepC T4.out (by simp) C1)
          | (go_at_call 38; refine HS.out.mono ?_; rintro e w3 ⟨u, rfl, ho3, hb3⟩; obtain ⟨au, cu, rfl⟩ := own_slice' (l := vs) rfl ho3; have HIV := Lib.hid (own_ints' (l := vs) rfl ho3); clear ho3; have T3 := Lib.hid (T0.out.trans (hb3.mono T0.out.size)); have c3 := keepC T3.out (by simp) C1))
        go_ret2
        exact ⟨by rw [HR.out]; rfl, HB.out.trans (T4.out.mono (by simp))⟩
      | true =>
        have HST := Lib.hid hst
        have HR2 : Hid (implPS l s.data.toList = if setB l vs = true then setS l vs vs.length else none) := Lib.hid (by rw [HR1.out, hst, if_pos rfl])
        have HRV : Hid (((implPS l s.data.toList).getD 0 : Nat) = setV l vs ∧ (implPS l s.data.toList).isSome = setB l vs) := Lib.hid (by
          rw [HR2.out]
          cases hb : setB l vs with
          | false => rw [if_neg (by decide), setB_no hb]; exact ⟨rfl, rfl⟩
          | true =>
            rw [if_pos rfl]
            refine ⟨rfl, ?_⟩
            unfold setB at hb
            simp only [Bool.and_eq_true] at hb
            exact hb.1)
        rw [HRV.out.1, HRV.out.2]
        clear hst
        go_enter Tryz.func7, Tryz.ntmps7
        go_wp2_with (first
          | (go_at_call 9; refine (iSetOf _ _ l _ _ _ vs _ _ HN.out hm (HI.out.below rfl T4.out) rfl (by omega) (HIV.out.below rfl hb4)).mono ?_; rintro e w5 ⟨rfl, hb5⟩)
          | (go_at_call 39; refine (iSorted _ _ vs _ _ rfl (by omega) HIV.out).mono ?_; rw [HST.out]; rintro e w4 ⟨rfl, hb4⟩; have T4 := Lib.hid (T3.out.trans (hb4.mono T3.out.size)); have c4 := keepC T4.out (by simp) C1)
          | (go_at_call 38; refine HS.out.mono ?_; rintro e w3 ⟨u, rfl, ho3, hb3⟩; obtain ⟨au, cu, rfl⟩ := own_slice' (l := vs) rfl ho3; have HIV := Lib.hid (own_ints' (l := vs) rfl ho3); clear ho3; have T3 := Lib.hid (T0.out.trans (hb3.mono T0.out.size)); have c3 := keepC T3.out (by simp) C1))
        go_ret2
        exact ⟨rfl, HB.out.trans ((T4.out.trans (hb5.mono T4.out.size)).mono (by simp))⟩
end Go.Proofs.YtkejpikhlejmaaaGreatDoor
