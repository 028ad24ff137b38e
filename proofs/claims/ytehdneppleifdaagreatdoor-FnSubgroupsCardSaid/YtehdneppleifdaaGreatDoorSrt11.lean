/- The library's sort of sets: its loop and its recursion. -/
import Derived.Test.YtehdneppleifdaaGreatDoorSrt10
import Derived.Sort.Walk13a
import Derived.Sort.AssemblyPlain
namespace Go.Proofs.YtehdneppleifdaaGreatDoor
open Go.RowKit
set_option maxRecDepth 1000000
theorem swoN : Sort.SWO ltN where
  irrefl := fun x => by simp [ltN]
  trans := fun x y z h1 h2 => by simp only [ltN, decide_eq_true_eq] at *; omega
  ntrans := fun x y z h1 h2 => by simp only [ltN, decide_eq_false_iff_not] at *; omega
def hintN : Sort.Hint → Nat
  | .unknown => 0
  | .increasing => 1
  | .decreasing => 2
theorem hintV_num (h : Sort.Hint) : hintV h = .int .i64 ((hintN h : Nat) : Int) := by cases h <;> rfl
theorem hintN_two {h : Sort.Hint} (e : hintN h = 2) : h = .decreasing := by cases h <;> simp [hintN] at e ⊢
theorem hintN_one {h : Sort.Hint} (e : hintN h = 1) : h = .increasing := by cases h <;> simp [hintN] at e ⊢
theorem grown_below {w wc w' : World} {g : Nat} (h : w.grownBy wc (some g)) (hb : Below wc.heap.size wc w') : w.grownBy w' (some g) :=
  ⟨hb.os.trans h.os, hb.tape.trans h.tape, hb.output.trans h.output, Nat.le_trans h.size hb.size, fun k hk hne => (hb.block k (Nat.lt_of_lt_of_le hk h.size)).trans (h.block k hk hne)⟩
set_option maxHeartbeats 32000000 in
theorem srtPdq : ∀ (N : Nat) (w : World) (g off : Nat) (pre tl : List Value) (d : Array Nat) (n cap a b limit : Nat), b - a < N → pre.length = off → n = d.size → a ≤ b → b ≤ n → n ≤ 16777216 → limit ≤ 16777216 → SR w g pre tl d → Sort.Below ltN a b d →
    Calls Tryz.prog 84 #[.slice (some ⟨g, off, none⟩) n cap, .int .i64 a, .int .i64 b, .int .i64 limit] w fun e w' => e = .returned (.tuple #[]) ∧ SR w' g pre tl (Sort.pdq ltN d a b limit true true) ∧ w.grownBy w' (some g) := by
  intro N
  induction N with
  | zero => intro _ _ _ _ _ _ _ _ _ _ _ h; omega
  | succ N ih =>
    intro w g off pre tl d n cap a b limit hN ho hn hab hb hn24 hl24 h hB
    have HR := Lib.hid h
    have HN := Lib.hid hn.symm
    have HOF := Lib.hid ho
    have IH := Lib.hid ih
    have HB0 := Lib.hid hB
    obtain ⟨RES, HRES⟩ : ∃ R, Hid (Sort.pdq ltN d a b limit true true = R) := ⟨_, Lib.hid rfl⟩
    rw [HRES.out]
    clear h hn ho ih hB
    go_enter Tryz.func84, Tryz.ntmps84
    go_wp2
    go_loopw [1, 2, 3, 8, 9] (fun s1 s2 s3 s8 s9 wr => ∃ (x y lim : Nat) (wb wp : Bool) (D : Array Nat), s1 = .int .i64 x ∧ s2 = .int .i64 y ∧ s3 = .int .i64 lim ∧ s8 = .bool wb ∧ s9 = .bool wp ∧ x ≤ y ∧ y ≤ n ∧ y - x ≤ b - a ∧ lim ≤ 16777216 ∧ SR wr g pre tl D ∧ D.size = n ∧ Hid (Sort.Below ltN x y D) ∧ Hid (Sort.pdq ltN D x y lim wb wp = RES) ∧ w.grownBy wr (some g)) (fun s1 s2 _ _ _ _ => (intOf s2 - intOf s1).toNat)
    case atStart => exact ⟨a, b, limit, true, true, d, rfl, rfl, rfl, rfl, rfl, hab, hb, Nat.le_refl _, hl24, HR.out, HN.out, HB0, HRES, World.grownBy.refl _ _⟩
    case round =>
      obtain ⟨x, y, lim, wb, wp, D, rfl, rfl, rfl, rfl, rfl, hxy, hyn, hyx, hlim, hsr, hsz, HBL, HO, hgr⟩ := hrel
      have HSR := Lib.hid hsr
      have HSZ := Lib.hid hsz
      have HGR := Lib.hid hgr
      clear hsr hsz hgr HR HN HB0
      obtain ⟨L, hL⟩ : ∃ L, L = y - x := ⟨_, rfl⟩
      have eL : (y : Int) - (x : Int) = (L : Int) := by omega
      have hL24 : L ≤ 16777216 := by omega
      by_cases h12 : y - x ≤ 12
      · have h12z : (L : Int) ≤ 12 := by omega
        have C1 := Lib.hid (srtIns wr g off pre tl D n cap x y HOF.out HSZ.out.symm hyn (by omega) hn24 HSR.out)
        go_wp2_with (go_at_call 88; refine C1.out.mono ?_; rintro e w1 ⟨rfl, hs1, hg1⟩)
        (try simp only [Exit.inBlock, Exit.then]); refine bodyPost_ret (results_none rfl _ _ _) rfl ?_
        exact ⟨rfl, by rw [← HO.out, Sort.pdq_small h12]; exact hs1, grown_trans HGR.out hg1⟩
      · have h12z : ¬ (L : Int) ≤ 12 := by omega
        by_cases hl0 : lim = 0
        · subst hl0
          have C1 := Lib.hid (srtHeap wr g off pre tl D n cap x y HOF.out HSZ.out.symm hxy hyn hn24 HSR.out)
          go_wp2_with (go_at_call 89; refine C1.out.mono ?_; rintro e w1 ⟨rfl, hs1, hg1⟩)
          (try simp only [Exit.inBlock, Exit.then]); refine bodyPost_ret (results_none rfl _ _ _) rfl ?_
          exact ⟨rfl, by rw [← HO.out, Sort.pdq_heap h12 rfl]; exact hs1, grown_trans HGR.out hg1⟩
        · have hl0z : ¬ (lim : Int) = 0 := by omega
          obtain ⟨R, hR⟩ : ∃ R, Sort.rd ltN D x y lim wb wp = R := ⟨_, rfl⟩
          have hF := Sort.rd_facts (limit := lim) (wb := wb) (wp := wp) swoN Sort.partialInsertionSort_holds Sort.reverseRange_holds (show x < y by omega) (show y ≤ D.size by rw [HSZ.out]; exact hyn) HBL.out
          rw [hR] at hF
          obtain ⟨s1, _, hc1, s2, _, hpv, s3, B3⟩ := hF
          have HS1 : Hid (R.d1.size = n) := Lib.hid (s1.trans HSZ.out)
          have HS2 : Hid (R.d2.size = n) := Lib.hid (s2.trans HSZ.out)
          have HS3 : Hid (R.pi.1.size = n) := Lib.hid (s3.trans HSZ.out)
          have HB3 := Lib.hid B3
          have hrl : R.lim ≤ lim := by rw [← hR]; exact Sort.rd_lim_le
          have hRL : Hid (R.lim ≤ 16777216) := Lib.hid (by omega)
          have HRD := Lib.hid hR
          have HC : Hid (Sort.choosePivot ltN R.d1 x y = R.c) := Lib.hid (by rw [← hR]; rfl)
          have hpn : R.pivot < n := by omega
          clear hR s1 s2 s3 B3 hrl
          go_upto_if 35 with fail
          go_cut [3] (fun s3 wc => s3 = .int .i64 ((R.lim : Nat) : Int) ∧ SR wc g pre tl R.d1 ∧ w.grownBy wc (some g))
          case first =>
            cases wb
            · have CB := Lib.hid (srtBrk wr g off pre tl D n cap x y HOF.out HSZ.out.symm (by omega) hyn hn24 HSR.out)
              have HD1 : Hid (R.d1 = Sort.breakPatterns D x y ∧ R.lim = lim - 1) := Lib.hid (by rw [← HRD.out]; exact Sort.rd_false)
              go_wp2_with (go_at_call 90; refine CB.out.mono ?_; rintro e w1 ⟨rfl, hs1, hg1⟩)
              go_meet
              case rel =>
                refine ⟨?_, by rw [HD1.out.1]; exact hs1, grown_trans HGR.out hg1⟩
                rw [HD1.out.2]
                congr 1
                omega
            · have HD1 : Hid (R.d1 = D ∧ R.lim = lim) := Lib.hid (by rw [← HRD.out]; exact Sort.rd_true)
              go_wp2_with fail
              go_meet
              case rel => exact ⟨by rw [HD1.out.2], by rw [HD1.out.1]; exact HSR.out, HGR.out⟩
          case rest =>
            obtain ⟨rfl, hs1, hg1⟩ := hcut
            have HW1 := Lib.hid hs1
            have HG1 := Lib.hid hg1
            clear hs1 hg1
            have CP := Lib.hid (srtPiv wc g off pre tl R.d1 n cap x y HOF.out HS1.out.symm (by omega) hyn hn24 HW1.out)
            rw [HC.out, hintV_num] at CP
            have hc2 : hintN R.c.2 ≤ 2 := by cases R.c.2 <;> simp [hintN]
            go_upto_if 50 with (go_at_call 91; refine CP.out.mono ?_; rintro e w2 ⟨rfl, hb2, -⟩)
            have HW2 : Hid (SR w2 g pre tl R.d1) := Lib.hid (keepH hb2 HW1.out.lt HW1.out)
            have HG2 : Hid (w.grownBy w2 (some g)) := Lib.hid (grown_below HG1.out hb2)
            clear hb2
            go_cut [11, 12] (fun s11 s12 wd => s11 = .int .i64 ((R.pivot : Nat) : Int) ∧ s12 = .int .i64 ((hintN R.hint : Nat) : Int) ∧ SR wd g pre tl R.d2 ∧ w.grownBy wd (some g))
            case first =>
              by_cases hh : R.c.2 = .decreasing
              · have hcode : hintN R.c.2 = 2 := by rw [hh]; rfl
                have HDD : Hid (R.d2 = Sort.reverseRange R.d1 x y ∧ R.pivot = (y - 1) - (R.c.1 - x) ∧ R.hint = .increasing) := Lib.hid (by
                  have := Sort.rd_dec (lt := ltN) (d := D) (a := x) (b := y) (limit := lim) (wb := wb) (wp := wp)
                  rw [HRD.out] at this
                  exact this hh)
                have CR := Lib.hid (srtRev w2 g off pre tl R.d1 n cap x y HOF.out HS1.out.symm (by omega) hyn hn24 HW2.out)
                go_wp2_with (go_at_call 92; refine CR.out.mono ?_; rintro e w3 ⟨rfl, hs3, hg3⟩)
                go_meet
                case rel =>
                  refine ⟨?_, by rw [HDD.out.2.2]; rfl, by rw [HDD.out.1]; exact hs3, grown_trans HG2.out hg3⟩
                  rw [HDD.out.2.1]
                  congr 1
                  omega
              · have hcode : ¬ hintN R.c.2 = 2 := fun h => hh (hintN_two h)
                have HDD : Hid (R.d2 = R.d1 ∧ R.pivot = R.c.1 ∧ R.hint = R.c.2) := Lib.hid (by
                  have := Sort.rd_not (lt := ltN) (d := D) (a := x) (b := y) (limit := lim) (wb := wb) (wp := wp)
                  rw [HRD.out] at this
                  exact this hh)
                go_wp2_with fail
                go_meet
                case rel => exact ⟨by rw [HDD.out.2.1], by rw [HDD.out.2.2], by rw [HDD.out.1]; exact HW2.out, HG2.out⟩
            case rest =>
              obtain ⟨rfl, rfl, hs3, hg3⟩ := hcut
              have HW3 := Lib.hid hs3
              have HG3 := Lib.hid hg3
              clear hs3 hg3 HW2 HG2 HW1 HG1
              have hRLn : R.lim ≤ 16777216 := hRL.out
              go_upto_region 15 with fail
              go_cut [12, 68] (fun s12 s68 we => s12 = .int .i64 ((hintN R.hint : Nat) : Int) ∧ s68 = .bool (wb && wp && decide (R.hint = .increasing)) ∧ SR we g pre tl R.d2 ∧ w.grownBy we (some g))
              case first =>
                by_cases hi : R.hint = .increasing
                · have hcode3 : hintN R.hint = 1 := by rw [hi]; rfl
                  cases wb <;> cases wp <;>
                    (go_wp2_with fail
                     go_meet
                     exact ⟨by first | rfl | simp [hcode3], by simp [hi, hintN], HW3.out, HG3.out⟩)
                · have hcode3 : ¬ hintN R.hint = 1 := fun h => hi (hintN_one h)
                  have hcode4 : ¬ ((hintN R.hint : Nat) : Int) = 1 := by omega
                  cases wb <;> cases wp <;>
                    (go_wp2_with fail
                     go_meet
                     exact ⟨by first | rfl | simp [hcode3], by simp [hi, hcode4], HW3.out, HG3.out⟩)
              case rest =>
                obtain ⟨rfl, rfl, hs4, hg4⟩ := hcut
                have HW4 := Lib.hid hs4
                have HG4 := Lib.hid hg4
                clear hs4 hg4 HW3 HG3
                go_upto_if 68 with fail
                go_cut [] (fun wf => R.pi.2 = false ∧ SR wf g pre tl R.pi.1 ∧ w.grownBy wf (some g))
                case first =>
                  cases h68 : (wb && wp && decide (R.hint = .increasing))
                  · have HPI : Hid (R.pi = (R.d2, false)) := Lib.hid (by
                      have := Sort.rd_pi_no (lt := ltN) (d := D) (a := x) (b := y) (limit := lim) (wb := wb) (wp := wp)
                      rw [HRD.out] at this
                      exact this h68)
                    go_wp2_with fail
                    go_meet
                    case rel => exact ⟨by rw [HPI.out], by rw [HPI.out]; exact HW4.out, HG4.out⟩
                  · have HPI : Hid (R.pi = Sort.partialInsertionSort ltN R.d2 x y) := Lib.hid (by
                      have := Sort.rd_pi_yes (lt := ltN) (d := D) (a := x) (b := y) (limit := lim) (wb := wb) (wp := wp)
                      rw [HRD.out] at this
                      exact this h68)
                    have CPA := Lib.hid (srtPar wc g off pre tl R.d2 n cap x y HOF.out HS2.out.symm (by omega) hyn hn24 HW4.out)
                    rw [← HPI.out] at CPA
                    cases hp2 : R.pi.2
                    · rw [hp2] at CPA
                      have HP2 := Lib.hid hp2
                      clear hp2
                      go_wp2_with (go_at_call 93; refine CPA.out.mono ?_; rintro e w4 ⟨rfl, hs4, hg4⟩)
                      go_meet
                      case rel => exact ⟨HP2.out, hs4, grown_trans HG4.out hg4⟩
                    · rw [hp2] at CPA
                      have HP2 := Lib.hid hp2
                      clear hp2
                      go_wp2_with (go_at_call 93; refine CPA.out.mono ?_; rintro e w4 ⟨rfl, hs4, hg4⟩)
                      (try simp only [Exit.inBlock, Exit.then]); refine bodyPost_ret (results_none rfl _ _ _) rfl ?_
                      refine ⟨rfl, ?_, grown_trans HG4.out hg4⟩
                      rw [← HO.out, Sort.pdq_done h12 hl0 (by rw [HRD.out]; exact HP2.out), HRD.out]
                      exact hs4
                case rest =>
                  obtain ⟨hp2, hs5, hg5⟩ := hcut
                  have HP2 := Lib.hid hp2
                  have HW5 := Lib.hid hs5
                  have HG5 := Lib.hid hg5
                  clear hp2 hs5 hg5 HW4 HG4
                  obtain ⟨G, hG⟩ : ∃ G : Nat → Nat, ∀ t, G t = R.pi.1[t]! := ⟨fun t => R.pi.1[t]!, fun _ => rfl⟩
                  have hcw : ∀ t, t < n → wc.cell? ⟨g, off + t, none⟩ = some (.int .u64 ((G t : Nat) : Int)) := fun t ht => by rw [hG]; exact HW5.out.fam HOF.out (by rw [HS3.out]; exact ht)
                  have hfw : ∀ t, t < n → wc.frozen? ⟨g, off + t, none⟩ = false := fun t _ => HW5.out.frozen _
                  have HG := Lib.hid hG
                  clear hG
                  go_upto_region 17 with fail
                  go_cut [87] (fun s87 wg => s87 = .bool (decide (x > 0) && !ltN R.pi.1[x - 1]! R.pi.1[R.pivot]!) ∧ SR wg g pre tl R.pi.1 ∧ w.grownBy wg (some g))
                  case first =>
                    rcases Nat.eq_zero_or_pos x with hx0 | hx0
                    · have HX0 := Lib.hid hx0
                      have hx0' : decide ((x : Int) > 0) = false := decide_eq_false (by omega)
                      have hx1 : ¬ 0 < x := by omega
                      have hx2 : ¬ (0 : Int) < (x : Int) := by omega
                      clear hx0
                      go_quiet (first | (go_at_call 94; refine Calls.quiet_of_same (iLt _ _ _)))
                      go_wp2
                      go_meet
                      case rel => exact ⟨by simp [HX0.out], HW5.out.drewN _, grown_drew HG5.out _⟩
                    · obtain ⟨u, hu⟩ : ∃ u, u = x - 1 := ⟨_, rfl⟩
                      have eu : (x : Int) - 1 = (u : Int) := by omega
                      have hun : u < n := by omega
                      have hx0' : (0 : Int) < (x : Int) := by omega
                      have HU := Lib.hid hu
                      clear hu
                      cases hl : ltN (G u) (G R.pivot) with
                      | false =>
                        go_quiet (first | (go_at_call 94; refine Calls.quiet_of_same (iLt _ _ _)))
                        go_wp2
                        go_meet
                        case rel => exact ⟨by rw [← HU.out, ← HG.out, ← HG.out, hl]; simp [hx0], HW5.out.drewN _, grown_drew HG5.out _⟩
                      | true =>
                        go_quiet (first | (go_at_call 94; refine Calls.quiet_of_same (iLt _ _ _)))
                        go_wp2
                        go_meet
                        case rel => exact ⟨by rw [← HU.out, ← HG.out, ← HG.out, hl]; simp, HW5.out.drewN _, grown_drew HG5.out _⟩
                  case rest =>
                    obtain ⟨rfl, hs6, hg6⟩ := hcut
                    have HW6 := Lib.hid hs6
                    have HG6 := Lib.hid hg6
                    clear hs6 hg6 HW5 HG5 hcw hfw HG
                    cases h87 : (decide (x > 0) && !ltN R.pi.1[x - 1]! R.pi.1[R.pivot]!) with
                    | false =>
                      have H87 := Lib.hid h87
                      clear h87
                      obtain ⟨mid, ap, d4, hx⟩ : ∃ mid ap d4, Sort.partition ltN R.pi.1 x y R.pivot = (mid, ap, d4) := ⟨(Sort.partition ltN R.pi.1 x y R.pivot).1, (Sort.partition ltN R.pi.1 x y R.pivot).2.1, (Sort.partition ltN R.pi.1 x y R.pivot).2.2, rfl⟩
                      obtain ⟨r1, r2, r3, r4, r5, r6, r7⟩ := Sort.round_part swoN (Sort.partition_holds ltN) hpv.1 hpv.2 (by rw [HS3.out]; exact hyn) HB3.out hx
                      have CPT := Lib.hid (srtPrt wc g off pre tl R.pi.1 n cap x y R.pivot HOF.out HS3.out.symm (by omega) hpn hyn hn24 HW6.out)
                      rw [hx] at CPT
                      have HX := Lib.hid hx
                      have HR4 : Hid (d4.size = n) := Lib.hid (r3.trans HS3.out)
                      have HBl := Lib.hid r4
                      have HBr := Lib.hid r5
                      have HPl := Lib.hid r6
                      have HPr := Lib.hid r7
                      obtain ⟨M1, hM1⟩ : ∃ M, M = mid - x := ⟨_, rfl⟩
                      obtain ⟨M2, hM2⟩ : ∃ M, M = y - mid := ⟨_, rfl⟩
                      obtain ⟨Q, hQ⟩ : ∃ Q, Q = L / 8 := ⟨_, rfl⟩
                      have eM1 : (mid : Int) - (x : Int) = (M1 : Int) := by omega
                      have eM2 : (y : Int) - (mid : Int) = (M2 : Int) := by omega
                      have eQ : ((L : Int)).tdiv 8 = (Q : Int) := by rw [Int.tdiv_eq_ediv_of_nonneg (by omega)]; omega
                      have hM1n : M1 ≤ 16777216 := by omega
                      have hM2n : M2 ≤ 16777216 := by omega
                      have hQn : Q ≤ 16777216 := by omega
                      clear hx r3 r4 r5 r6 r7
                      by_cases h4 : mid - x < y - mid
                      · have h4z : (M1 : Int) < (M2 : Int) := by omega
                        have HL : Hid (Sort.pdq ltN (Sort.pdq ltN d4 x mid R.lim true true) (mid + 1) y R.lim (decide (M1 ≥ Q)) ap = RES) := Lib.hid (by
                          have h0 := Sort.pdq_left (lt := ltN) (d := D) (a := x) (b := y) (limit := lim) (wb := wb) (wp := wp) h12 hl0
                          rw [HRD.out] at h0
                          have h1 := h0 HP2.out H87.out (by rw [HX.out]; exact ⟨r1, r2⟩) (by rw [HX.out]; exact h4)
                          rw [HX.out] at h1
                          rw [← HO.out, h1, hM1, hQ, hL])
                        have HS := Lib.hid (Sort.pdq_sorts ltN swoN d4 x mid R.lim true true (by omega) (by rw [HR4.out]; omega) HBl.out)
                        go_wp2_with (first | (go_at_call 84; refine (IH.out w7 g off pre tl d4 n cap x mid R.lim (by omega) HOF.out HR4.out.symm (by omega) (by omega) hn24 hRLn hs7 HBl.out).mono ?_; rintro e w8 ⟨rfl, hs8, hg8⟩) | (go_at_call 96; refine CPT.out.mono ?_; rintro e w7 ⟨rfl, hs7, hg7⟩))
                        go_roundw
                        case rel => exact ⟨mid + 1, y, R.lim, decide (M1 ≥ Q), ap, Sort.pdq ltN d4 x mid R.lim true true, by go_num, rfl, rfl, by congr 1; exact decide_eq_decide.2 (by omega), rfl, by omega, by omega, by omega, hRLn, hs8, by rw [HS.out.1.1]; exact HR4.out, Lib.hid (HPl.out _ HS.out.1 HS.out.2).1, HL, grown_trans (grown_trans HG6.out hg7) hg8⟩
                        case measure => first | (simp [intOf]; done) | (simp [intOf]; omega) | omega
                      · have h4z : ¬ (M1 : Int) < (M2 : Int) := by omega
                        obtain ⟨mid1, hm1⟩ : ∃ m, m = mid + 1 := ⟨_, rfl⟩
                        have em1 : (mid : Int) + 1 = (mid1 : Int) := by omega
                        have HM1 := Lib.hid hm1
                        have HBr1 : Hid (Sort.Below ltN mid1 y d4) := Lib.hid (by rw [hm1]; exact HBr.out)
                        have HL : Hid (Sort.pdq ltN (Sort.pdq ltN d4 mid1 y R.lim true true) x mid R.lim (decide (M2 ≥ Q)) ap = RES) := Lib.hid (by
                          have h0 := Sort.pdq_right (lt := ltN) (d := D) (a := x) (b := y) (limit := lim) (wb := wb) (wp := wp) h12 hl0
                          rw [HRD.out] at h0
                          have h1 := h0 HP2.out H87.out (by rw [HX.out]; exact ⟨r1, r2⟩) (by rw [HX.out]; exact h4)
                          rw [HX.out] at h1
                          rw [← HO.out, h1, hM2, hQ, hL, hm1])
                        have HS : Hid (Sort.PermIn mid1 y d4 (Sort.pdq ltN d4 mid1 y R.lim true true) ∧ Sort.SortedIn ltN mid1 y (Sort.pdq ltN d4 mid1 y R.lim true true)) := Lib.hid (Sort.pdq_sorts ltN swoN d4 mid1 y R.lim true true (by omega) (by rw [HR4.out]; omega) HBr1.out)
                        have HT : Hid (Sort.Below ltN x mid (Sort.pdq ltN d4 mid1 y R.lim true true)) := Lib.hid (HPr.out _ (by rw [← hm1]; exact HS.out.1) (by rw [← hm1]; exact HS.out.2)).1
                        have hN1 : y - mid1 < N := by omega
                        have hm1y : mid1 ≤ y := by omega
                        have hm1n : mid1 ≤ 16777216 := by omega
                        clear hm1
                        go_wp2_with (first | (go_at_call 84; refine (IH.out w7 g off pre tl d4 n cap mid1 y R.lim hN1 HOF.out HR4.out.symm hm1y hyn hn24 hRLn hs7 HBr1.out).mono ?_; rintro e w8 ⟨rfl, hs8, hg8⟩) | (go_at_call 96; refine CPT.out.mono ?_; rintro e w7 ⟨rfl, hs7, hg7⟩))
                        go_roundw
                        case rel => exact ⟨x, mid, R.lim, decide (M2 ≥ Q), ap, Sort.pdq ltN d4 mid1 y R.lim true true, rfl, rfl, rfl, by congr 1; exact decide_eq_decide.2 (by omega), rfl, by omega, by omega, by omega, hRLn, hs8, by rw [HS.out.1.1]; exact HR4.out, HT, HL, grown_trans (grown_trans HG6.out hg7) hg8⟩
                        case measure => first | (simp [intOf]; done) | (simp [intOf]; omega) | omega
                    | true =>
                      have H87 := Lib.hid h87
                      simp only [Bool.and_eq_true, decide_eq_true_eq, Bool.not_eq_true'] at h87
                      obtain ⟨mid, d4, hx⟩ : ∃ mid d4, Sort.partitionEqual ltN R.pi.1 x y R.pivot = (mid, d4) := ⟨(Sort.partitionEqual ltN R.pi.1 x y R.pivot).1, (Sort.partitionEqual ltN R.pi.1 x y R.pivot).2, rfl⟩
                      obtain ⟨r1, r2, r3, r4, _⟩ := Sort.round_eq swoN (Sort.partitionEqual_holds ltN) h87.1 hpv.1 hpv.2 (by rw [HS3.out]; exact hyn) HB3.out h87.2 hx
                      have CPE := Lib.hid (srtPeq wc g off pre tl R.pi.1 n cap x y R.pivot HOF.out HS3.out.symm (by omega) hpn hyn hn24 HW6.out)
                      rw [hx] at CPE
                      have HX := Lib.hid hx
                      have HR4 : Hid (d4.size = n) := Lib.hid (r3.trans HS3.out)
                      have HBl := Lib.hid r4
                      have HL : Hid (Sort.pdq ltN d4 mid y R.lim wb wp = RES) := Lib.hid (by
                        have h0 := Sort.pdq_eq (lt := ltN) (d := D) (a := x) (b := y) (limit := lim) (wb := wb) (wp := wp) h12 hl0
                        rw [HRD.out] at h0
                        have h1 := h0 HP2.out H87.out (by rw [HX.out]; exact ⟨r1, r2⟩)
                        rw [HX.out] at h1
                        rw [← HO.out, h1])
                      clear hx r3 r4 h87
                      go_wp2_with (go_at_call 95; refine CPE.out.mono ?_; rintro e w7 ⟨rfl, hs7, hg7⟩)
                      go_roundw
                      case rel => exact ⟨mid, y, R.lim, wb, wp, d4, rfl, rfl, rfl, rfl, rfl, by omega, by omega, by omega, hRLn, hs7, HR4.out, HBl, HL, grown_trans HG6.out hg7⟩
                      case measure => first | (simp [intOf]; done) | (simp [intOf]; omega) | omega
end Go.Proofs.YtehdneppleifdaaGreatDoor
