/- Merged: VoI Each EachL Lst VoJ LdI VoP Err Round Shift SumI Dil ShiftSet SetDil SumJ KnF SumK TabE VoSpec. -/
import Derived.Test.YtfkleihnafeoeaaDoorVoRun
import Derived.Test.YtfkleihnafeoeaaDoorSetIn
import Derived.Deep.LoopGhost
import Derived.WalkMore
import Derived.Test.YtfkleihnafeoeaaDoorSetBits
import Derived.RangeFuncFrom
import Derived.RangeFuncBox
import Derived.RangeFuncNested
import Derived.RangeFuncBound
import Derived.RangeFuncCalls
import Derived.RangeFuncLeaves
import Derived.Shelf.Abstract
import Derived.Shelf.RegionOpen
import Derived.Shelf.Spec.TrailingZeros
import Derived.WalkKit
import Derived.OwnWalkIn
import Derived.TacticsInMore
import Derived.LoopNIn
import Derived.LoopIn
import Derived.Maps.AppendAt
import Derived.Lib.LaidTab
import Derived.Lib.AppendIntMem
import Derived.Test.YtfkleihnafeoeaaDoorLstN
import Derived.Test.YtfkleihnafeoeaaDoorKnDef
import Derived.Test.YtfkleihnafeoeaaDoorGrpTri
import Derived.Test.YtfkleihnafeoeaaDoorVoEl
import Derived.Test.YtfkleihnafeoeaaDoorGrpIn
import Derived.LaidEql
import Derived.Stop.Asserts
import Derived.RowKitTokens
import Derived.Lib.ReflectliteSwap
import Derived.Deep.RegionHeld3
import Derived.Test.YtfkleihnafeoeaaDoorGrpMul
import Derived.Test.YtfkleihnafeoeaaDoorShiftN
import Derived.Test.YtfkleihnafeoeaaDoorSumSpec
import Derived.Test.YtfkleihnafeoeaaDoorDilSpec
import Derived.Test.YtfkleihnafeoeaaDoorVoDef
import Derived.Deep.DeepCutAuto
namespace Go.Proofs.YtfkleihnafeoeaaDoor
open Go.RowKit
set_option maxRecDepth 1000000
set_option maxHeartbeats 4000000 in
theorem iDiff {l : List Int} (hg : grpB l = true) (w : World) (s : Nat) (hs : s < 2 ^ (prodI l).toNat) (h0 : s ≠ 0) :
    Calls Tryd.prog 30 #[tV (l.getD 0 1) (l.getD 1 1) (l.getD 2 1), .int .u64 s] w fun e w' => e = .returned (.int .u64 (dsN l s : Nat)) ∧ Below w.heap.size w w' := by
  have hp := (ords_grp hg).prod
  have HP := prod_pad (grpB_true hg).1
  have hs24 : s < 16777216 := grp_pow hg hs
  have HRN := Lib.hid (fun (W : World) (x d : Nat) hx hd => iRun hg W s x d hs hx hd)
  have HPR := Lib.hid (fun (W : World) => iProduct W _ _ _ (tri_grp hg))
  have HFU := Lib.hid (fun (W : World) => iFull W _ _ _ (((2 ^ (prodI l).toNat - 1 : Nat) : Int)) (tri_grp hg) (by
    rw [← HP]
    have := Nat.two_pow_pos (prodI l).toNat
    omega))
  have HFR := Lib.hid (fun d => fine_run hg hs h0 (d := d))
  have HDL := Lib.hid (fun k => grp_pow hg (ds_lt l s k))
  have HD0 : Hid (dsK l s 0 = 2 ^ (prodI l).toNat - 1) := Lib.hid rfl
  have HDE : Hid (dsN l s = dsK l s (prodI l).toNat) := Lib.hid rfl
  have HRL : Hid (∀ x d, runN l s d 24 x 0 ≤ 24) := Lib.hid (fun x d => by
    have := run_le (l := l) (d := d) hs24 24 x 0 (by decide) (fun i hi => by simp at hi)
    have : (bitsN s).length ≤ 24 := upK_len s 24
    omega)
  have HCL : Hid ((bitsN s).length ≤ 24) := Lib.hid (upK_len s 24)
  have HC := Lib.hid (fun (W : World) => iCnt W s hs24)
  rw [← HP] at HPR
  obtain ⟨N, hNN⟩ : ∃ N : Nat, (prodI l).toNat = N := ⟨_, rfl⟩
  have hpN : prodI l = (N : Int) := by omega
  rw [hNN] at HRN HFU HFR HD0 HDE
  rw [hpN] at HPR
  have hN24 : N ≤ 24 := by omega
  rw [HDE.out]
  rw [← HD0.out] at HFU
  obtain ⟨c, hc⟩ : ∃ c, (bitsN s).length = c := ⟨_, rfl⟩
  rw [hc] at HFR HC HCL
  obtain ⟨p, EP⟩ : ∃ p, Hid (l.getD 0 1 = p) := ⟨_, Lib.hid rfl⟩
  obtain ⟨q, EQ⟩ : ∃ q, Hid (l.getD 1 1 = q) := ⟨_, Lib.hid rfl⟩
  obtain ⟨r, ER⟩ : ∃ r, Hid (l.getD 2 1 = r) := ⟨_, Lib.hid rfl⟩
  rw [EP.out, EQ.out, ER.out] at HRN HPR HFU
  rw [EP.out, EQ.out, ER.out]
  have R0 := Lib.hid (heap_alloc_new w (.cells #[.int .i64 p, .int .i64 q, .int .i64 r] 45))
  obtain ⟨c0, c1, c2, _, _, _⟩ := trip_cell R0.out
  have HB := Lib.hid (Joins.below_alloc1 w (.cells #[.int .i64 p, .int .i64 q, .int .i64 r] 45))
  clear hg hp hs24 hs h0 hNN hpN hc HP
  go_enter Tryd.func30, Tryd.ntmps30
  go_wp2
  go_step3
  go_wp2_with (go_at_call 39; refine (HFU.out _).mono ?_; rintro e w1 ⟨rfl, hb1⟩; have T1 := Lib.hid (HB.out.trans (hb1.mono HB.out.size)); have R1 := Lib.hid (keepH hb1 (Array.getElem?_eq_some_iff.1 R0.out).1 R0.out); obtain ⟨d0, d1, d2, _, _, _⟩ := trip_cell R1.out)
  go_step3
  go_wp2_with (go_at_call 40; refine (HPR.out _).mono ?_; rintro e w2 ⟨rfl, hb2⟩; have T2 := Lib.hid (T1.out.trans (hb2.mono T1.out.size)); have R2 := Lib.hid (keepH hb2 (Array.getElem?_eq_some_iff.1 R1.out).1 R1.out))
  go_loopg [5, 12] N (fun g fv kv wx => ∃ k : Nat, k + g = N ∧ kv = .int .i64 k ∧ fv = .int .u64 (dsK l s k : Nat) ∧ Hid (Below w.heap.size w wx) ∧ Hid (wx.heap[w.heap.size]? = some (.cells #[.int .i64 p, .int .i64 q, .int .i64 r] 45 (0, 0))))
  case atStart => exact ⟨0, by omega, rfl, rfl, T2, R2⟩
  case round =>
    obtain ⟨k, hkg, rfl, rfl, HBW, HGW⟩ := hrel
    cases gk with
    | zero =>
      obtain rfl : k = N := by omega
      go_wp2
      try rw [Exit.noGoto_ret]
      go_ret
      exact ⟨rfl, HBW.out⟩
    | succ g =>
      have hkN : k < N := by omega
      have hki : (k : Int) < (N : Int) := by omega
      have HFK := Lib.hid (HFR.out k)
      have hD24 := HDL.out k
      have HYE := Lib.hid (fun (h : fineB l s k = true) => ds_yes h)
      have HNO := Lib.hid (fun (h : fineB l s k = false) => ds_no h)
      obtain ⟨D, hDD⟩ : ∃ D, dsK l s k = D := ⟨_, rfl⟩
      rw [hDD] at hD24 HYE HNO
      rw [hDD]
      have hk23 : k ≤ 23 := by omega
      have HWO := Lib.hid (fun (W : World) => iWithout W D k hD24 hk23)
      obtain ⟨e0, e1, e2, _, _, _⟩ := trip_cell HGW.out
      clear hDD hD24
      obtain ⟨wa, rfl⟩ : ∃ W, W = wr := ⟨wr, rfl⟩
      go_wp2_with (go_at_call 40; refine (HPR.out _).mono ?_; rintro e w3 ⟨rfl, hb3⟩; have T3 := Lib.hid (HBW.out.trans (hb3.mono HBW.out.size)); have R3 := Lib.hid (keepH hb3 (Array.getElem?_eq_some_iff.1 HGW.out).1 HGW.out))
      go_loopg [17] N (fun g jv wx => ∃ j : Nat, j + g = N ∧ jv = .int .i64 j ∧ Hid (∀ x, x < j → runN l s k 24 x 0 ≠ c) ∧ Hid (Below w.heap.size w wx) ∧ Hid (wx.heap[w.heap.size]? = some (.cells #[.int .i64 p, .int .i64 q, .int .i64 r] 45 (0, 0))))
      case atStart => exact ⟨0, by omega, rfl, Lib.hid (fun x h => by omega), T3, R3⟩
      case round =>
        obtain ⟨j, hjg, rfl, HNX, HBX, HGX⟩ := hrel
        cases gk with
        | zero =>
          obtain rfl : j = N := by omega
          have HE := Lib.hid (HNO.out (by
            cases hf : fineB l s k with
            | false => rfl
            | true =>
              obtain ⟨x, hx, e⟩ := HFK.out.1 hf
              exact absurd e (HNX.out x hx)))
          clear HNX
          go_wp2_with (go_at_call 47; refine (HWO.out _).mono ?_; rintro e w4 ⟨rfl, rfl⟩)
          go_roundg g
          case measure => omega
          case rel => exact ⟨k + 1, by omega, by go_num, by rw [HE.out], HBX, HGX⟩
        | succ g2 =>
          have hjN : j < N := by omega
          have hji : (j : Int) < (N : Int) := by omega
          have HR := Lib.hid (fun (W : World) => HRN.out W j k hjN hkN)
          have hrl := HRL.out j k
          have hcl := HCL.out
          have HNJ := Lib.hid (fun (h : runN l s k 24 j 0 ≠ c) x (hx : x < j + 1) => if e : x = j then (by rw [e]; exact h) else HNX.out x (by omega))
          obtain ⟨R, hRR⟩ : ∃ R, runN l s k 24 j 0 = R := ⟨_, rfl⟩
          rw [hRR] at HR hrl HNJ
          obtain ⟨f0, f1, f2, _, _, _⟩ := trip_cell HGX.out
          by_cases he : R = c
          · have HE := Lib.hid (HYE.out (HFK.out.2 ⟨j, hjN, hRR.trans he⟩))
            have het : ((R : Int) == (c : Int)) = true := by simp [he]
            clear he hRR HNX HNJ
            go_wp2_with (first
              | (go_at_call 37; refine (HC.out _).mono ?_; rintro e w5 ⟨rfl, rfl⟩)
              | (go_at_call 46; refine (HR.out _).mono ?_; rintro e w4 ⟨rfl, hb4⟩; have T4 := Lib.hid (HBX.out.trans (hb4.mono HBX.out.size)); have R4 := Lib.hid (keepH hb4 (Array.getElem?_eq_some_iff.1 HGX.out).1 HGX.out)))
            go_roundg g
            case measure => omega
            case rel => exact ⟨k + 1, by omega, by go_num, by rw [HE.out], T4, R4⟩
          · have HNJ2 := Lib.hid (HNJ.out he)
            have het : ((R : Int) == (c : Int)) = false := by simp; omega
            clear he hRR HNX HNJ
            go_wp2_with (first
              | (go_at_call 37; refine (HC.out _).mono ?_; rintro e w5 ⟨rfl, rfl⟩)
              | (go_at_call 46; refine (HR.out _).mono ?_; rintro e w4 ⟨rfl, hb4⟩; have T4 := Lib.hid (HBX.out.trans (hb4.mono HBX.out.size)); have R4 := Lib.hid (keepH hb4 (Array.getElem?_eq_some_iff.1 HGX.out).1 HGX.out)))
            go_roundg g2
            case measure => omega
            case rel => exact ⟨j + 1, by omega, by go_num, HNJ2, T4, R4⟩
end Go.Proofs.YtfkleihnafeoeaaDoor

namespace Go.Proofs.YtfkleihnafeoeaaDoor
open Go.RowKit Go.Shelf
attribute [local go_sem] Oper.semAt_some
set_option maxRecDepth 1000000
def tabZ : List Int := Lib.deBruijn64tab.map fun (n : Nat) => (n : Int)
/-- The library's table reads as it is laid, whatever is done from block B on. -/
def TabZ (B : Nat) (w : World) : Prop := Lib.TabBelow Tryd.prog B w "math/bits.deBruijn64tab" .u8 tabZ
theorem TabZ.on {B : Nat} {w w1 : World} (h : TabZ B w) (hb : Below B w w1) : TabZ B w1 := Lib.TabBelow.on h hb
theorem TabZ.at {B : Nat} {w : World} (h : TabZ B w) (j : Nat) (hj : j < 64) : w.cell? ⟨2, j, none⟩ = some (.int .u8 ((Lib.deBruijn64tab.getD j 0 : Nat) : Int)) := by
  have h1 := Lib.TabIs.cell (g := 2) (Lib.TabBelow.here h) (by kernel_rfl) j (by unfold tabZ; rw [List.length_map]; exact hj)
  have hl : j < Lib.deBruijn64tab.length := hj
  simpa [tabZ, List.getD, List.getElem?_eq_getElem hl] using h1
theorem iTz64 (w : World) (x : Nat) (hx : x < 16777216) (h0 : x ≠ 0) (B : Nat) (ht : TabZ B w) :
    Calls Tryd.prog 69 #[.int .u64 x] w fun e w' => e = .returned (.int .i64 (Lib.ctz 64 x : Nat)) ∧ w = w' := by
  have hx64 : x < 18446744073709551616 := Nat.lt_trans hx (by decide)
  obtain ⟨hlow, hk⟩ := Lib.lowest_bit 64 x h0 hx64
  obtain ⟨hi, htab⟩ := Lib.deBruijn64_at _ hk
  have hcell := ht.at _ hi
  rw [htab] at hcell
  have key := tz64_key x _ hx64 h0 hlow
  have hx0 : ((x : Int) == 0) = false := by simp; omega
  obtain ⟨k, hkk⟩ : ∃ k, Lib.ctz 64 x = k := ⟨_, rfl⟩
  rw [hkk] at hcell hk
  rw [hkk]
  obtain ⟨idx, hidx⟩ : ∃ i, 2 ^ Lib.ctz 64 x * 285870213051353865 % 18446744073709551616 / 288230376151711744 = i := ⟨_, rfl⟩
  rw [hidx] at key hi
  rw [hkk] at hidx
  rw [hidx] at hcell
  clear htab hlow hkk hidx h0 ht
  go_enter Tryd.func69, Tryd.ntmps69
  go_wp2_with (simp only [key])
  go_ret
  exact ⟨rfl, rfl⟩
theorem iTz (w : World) (x : Nat) (hx : x < 16777216) (h0 : x ≠ 0) (B : Nat) (ht : TabZ B w) :
    Calls Tryd.prog 57 #[.int .u64 x] w fun e w' => e = .returned (.int .i64 (Lib.ctz 64 x : Nat)) ∧ w = w' := by
  have HX := Lib.hid hx
  have H0 := Lib.hid h0
  have HT := Lib.hid ht
  clear ht h0
  go_enter Tryd.func57, Tryd.ntmps57
  go_wp2_with (go_at_call 69; refine (iTz64 _ x HX.out H0.out B HT.out).mono ?_; rintro e w1 ⟨rfl, rfl⟩)
  go_ret
  exact ⟨rfl, rfl⟩
theorem iLeast (w : World) (x : Nat) (hx : x < 16777216) (h0 : x ≠ 0) (B : Nat) (ht : TabZ B w) :
    Calls Tryd.prog 41 #[.int .u64 x] w fun e w' => e = .returned (.int .i64 (Lib.ctz 64 x : Nat)) ∧ w = w' := by
  have HX := Lib.hid hx
  have H0 := Lib.hid h0
  have HT := Lib.hid ht
  clear ht h0
  go_enter Tryd.func41, Tryd.ntmps41
  go_wp2_with (go_at_call 57; refine (iTz _ x HX.out H0.out B HT.out).mono ?_; rintro e w1 ⟨rfl, rfl⟩)
  go_ret
  exact ⟨rfl, rfl⟩
set_option maxHeartbeats 1000000 in
theorem each_in (n : Nat) (s : Nat) (hs : s < 2 ^ 24) (B l : Nat) (J : List Nat → World → Prop) (hT : ∀ pre W, J pre W → TabZ B W)
    (hY : ∀ pre x W, J pre W → x < 24 → s.testBit x = true → pre.length < 24 → YieldAt Fence.wide (n - 1) Tryd.prog l #[.int .i64 (x : Nat)] W fun e W' => e = .returned (.bool true) ∧ J (pre ++ [x]) W')
    (W : World) (h0 : J [] W) :
    CallsIn Fence.wide n Tryd.prog 48 #[.int .u64 s, .func (.yield l) #[] #[]] W fun e W' => (∃ v, e = .returned v) ∧ J (bitsN s) W' := by
  have HS := Lib.hid hs
  have HY := Lib.hid hY
  have HTB := Lib.hid hT
  clear hs hY hT
  refine callsIn_of_wp Tryd.func48 rfl trivial ?_ rfl
  simp only [Tryd.ntmps48, List.size_toArray, List.length_cons, List.length_nil, Nat.reduceAdd, Nat.reduceSub, Array.replicate_succ, Array.replicate_zero, List.push_toArray, List.append_toArray, List.nil_append, List.cons_append]
  gi_wp2
  gi_loopw [4] (fun r wr => ∃ k R : Nat, k ≤ 24 ∧ r = .int .u64 (R : Nat) ∧ Hid (restK s k = R) ∧ J (upK s k) wr) (fun r _ => (intOf r).toNat)
  case atStart => exact ⟨0, s, by omega, rfl, Lib.hid (restK_zero s), h0⟩
  case round =>
    obtain ⟨k, R, hk, rfl, HR, hJ⟩ := hrel
    by_cases hz : R = 0
    · have HE := Lib.hid (restK_end (a := s) (k := k) (by rw [HR.out, hz]) hk)
      subst hz
      have hn0 : ((((0 : Nat) : Int)) == 0) = true := rfl
      gi_wp2
      go_end0
      exact ⟨⟨_, rfl⟩, by rw [← HE.out]; exact hJ⟩
    · obtain ⟨t, ht, hkt, ht24, hu, hand, hlt⟩ := rest_step (a := s) (k := k) HS.out (by rw [HR.out]; exact hz)
      rw [HR.out] at ht hand hlt
      have hRlt : R < 16777216 := by
        rw [← HR.out]; exact Nat.lt_of_le_of_lt (restK_le s k) HS.out
      have H1 := Lib.hid hRlt
      have H2 := Lib.hid hz
      have hne : ((R : Int) == 0) = false := by simp; omega
      obtain ⟨R2, HR2⟩ : ∃ R2, Hid (restK s (t + 1) = R2) := ⟨_, Lib.hid rfl⟩
      rw [HR2.out] at hand hlt
      have HBB : Hid (bits .and .u64 (R : Int) (IntKind.u64.wrap ((R : Int) - 1)) = (R2 : Int)) := Lib.hid (by
        rw [← hand, ← bits_and_u64_nat R (R - 1) (by omega) (by omega), IntKind.wrap_u64]
        congr 1; omega)
      have HTT := Lib.hid ht
      have HU := Lib.hid hu
      have HLT := Lib.hid hlt
      have HT24 := Lib.hid ht24
      have HJ := Lib.hid hJ
      obtain ⟨fn, tmps, assign, body, hy, hR⟩ := HY.out (upK s k) t wr hJ ht24 (upK_mem (k := t + 1) (by rw [hu]; simp)).2 (Nat.lt_of_le_of_lt (upK_len s k) (by omega))
      clear ht hu hlt hand hz hJ
      gi_wp2
      refine ⟨trivial, fun h => (by simp [Fence.wide] at h), ?_⟩
      refine (callsIn_wide.2 (iLeast _ R H1.out H2.out B (HTB.out _ _ HJ.out))).mono ?_
      rw [HTT.out]
      rintro e w3 ⟨rfl, rfl⟩
      gi_wp2
      refine ⟨fun h => (by simp [Fence.wide] at h), hR.mono ?_⟩
      rintro e W3 ⟨rfl, hJ3⟩
      gi_wp2
      go_roundw
      case rel => exact ⟨t + 1, R2, by omega, by rw [HBB.out], HR2, by rw [HU.out]; exact hJ3⟩
      case measure => rw [HBB.out]; have := HLT.out; simp [intOf]; omega
end Go.Proofs.YtfkleihnafeoeaaDoor

namespace Go.Proofs.YtfkleihnafeoeaaDoor
open Go.RowKit Go.Shelf
set_option maxRecDepth 1000000
/-- How the body of a round ends: it goes on; what is no cells lies as it lay; the invariant holds of one element more. -/
def eachPost (I : List Nat → World → Prop) (xs : List Nat) (W : World) : Exit → Act → World → Prop := fun e _ W' => e = .normal ∧ KeepsOthers W W' ∧ I xs W'
set_option maxHeartbeats 1000000 in
theorem each_loopB {n : Nat} {g : Operand} {p : Tmp} {assign body : Code} {Q : Exit → Act → World → Prop} {a : Act} {w : World}
    (s : Nat) (hs : s < 2 ^ 24) (hg : a.eval g = .func (.func 48) #[.int .u64 s] #[]) (B : Nat)
    (I : List Nat → World → Prop) (hI : OwnFrom w.heap.size I) (hT : ∀ pre W, I pre W → TabZ B W) (h0 : I [] w) (a₁ : Nat → Act)
    (hassign : ∀ (l x : Nat) (W : World) (K : Act → World → Prop), K (a₁ x) W →
      assign.wpIn (Fence.wide.inRound l) (n - 1 - 1) Tryd.prog (Exit.then K (fun _ _ _ => False)) { tmps := a.tmps.setIfInBounds p (.int .i64 (x : Nat)), defers := [] } W)
    (hbody : ∀ (l : Nat) (pre : List Nat) (x : Nat) (W : World), x < 24 → s.testBit x = true → pre.length < 24 → I pre W →
      body.wpIn (Fence.wide.inRound l) (n - 1 - 1) Tryd.prog (eachPost I (pre ++ [x]) W) (a₁ x) W)
    (hdone : ∀ (D : Nat) (W : World), w.heap.size ≤ D → I (bitsN s) W → W.heap[D]? = some (.deferred (some [])) →
      Q .normal { a with defers := { target := .collected D, args := #[] } :: a.defers } W) :
    (Code.rangeFunc g #[p] assign body).wpIn Fence.wide n Tryd.prog Q a w := by
  refine wpIn_rangeFunc ?_
  intro fn hfn
  -- the statement's own block of deferred calls, and the loop's record behind it
  generalize hD : w.heap.size = D at *
  let lp : LoopState → Loop := fun st => { state := st, pending := none, fn := fn, tmps := a.tmps, params := #[p], assign := assign, body := body, defers := D }
  have elp : ∀ st, lp st = { state := st, pending := none, fn := fn, tmps := a.tmps, params := #[p], assign := assign, body := body, defers := D } := fun _ => rfl
  let V := (w.alloc (.deferred (some []))).alloc (.loop (lp .ready))
  have vL : V.heap[D + 1]? = some (.loop (lp .ready)) := by
    have h := World.alloc_heap_new (w.alloc (.deferred (some []))) (.loop (lp .ready))
    rwa [World.size_alloc, hD] at h
  have vD : V.heap[D]? = some (.deferred (some [])) := by
    have h := World.alloc_heap_new w (.deferred (some []))
    rw [hD] at h
    exact (Below.heap_alloc _ _ _ (by simp; omega)).trans h
  have vI : I [] V := hI.alloc _ (hI.alloc _ h0)
  have henter : (Instr.enterLoop fn a.tmps #[p] assign body Fence.wide.round).run Tryd.prog w = .ok (D + 1, [{ target := .collected D, args := #[] }]) V := by
    have h := run_enterLoop_outer (P := Tryd.prog) (w := w) fn a.tmps #[p] assign body
    rw [hD] at h
    exact h
  have eg := enters_of (P := Tryd.prog) Tryd.func48 (by kernel_rfl) rfl
  refine ⟨D + 1, [{ target := .collected D, args := #[] }], V, { target := .fn (.func 48) #[], args := #[.int .u64 s, .func (.yield (D + 1)) #[] #[]] }, V, 48,
    #[.int .u64 s, .func (.yield (D + 1)) #[] #[]], V, henter, ?_, fun _ _ => trivial, ?_, fun h => (by simp [Fence.wide] at h), ?_⟩
  · simp only [resolve, hg]
    simp [go_sem]
  · simp [invoke, go_sem, eg _ _]
  -- what holds between two rounds: the caller's invariant, the record ready, the block as it was laid
  refine (each_in (n - 1) s hs B (D + 1) (fun pre W => I pre W ∧ W.heap[D + 1]? = some (.loop (lp .ready)) ∧ W.heap[D]? = some (.deferred (some [])))
    (fun pre W h => hT pre W h.1) ?round V (And.intro vI (And.intro vL vD))).mono ?done
  case round =>
    rintro pre x W ⟨hi, hl, hk⟩ hx hbt hpl
    have hin : D + 1 < W.heap.size := (Array.getElem?_eq_some_iff.1 hl).1
    have hy := run_yield (P := Tryd.prog) (args := #[Value.int .i64 (x : Nat)]) hl (by rw [elp]; rfl)
    have hy2 : (Instr.yield (D + 1) #[Value.int .i64 (x : Nat)]).run Tryd.prog W = .ok (.round (D + 1) fn (a.tmps.setIfInBounds p (.int .i64 (x : Nat))) assign body) W := by
      rw [hy, elp]; simp
    refine ⟨fn, _, assign, body, hy2, roundIn_of_wpIn hfn ?_⟩
    refine hassign (D + 1) x W _ ⟨_, run_beginRound hl (by rw [elp]), ?_⟩
    -- the record is busy: the body
    obtain ⟨U, hU⟩ : ∃ U, W.putObj (D + 1) (.loop { lp .ready with state := .busy }) = U := ⟨_, rfl⟩
    have uI : I pre U := by rw [← hU]; exact hI.putObj _ hi (by omega) hl rfl
    have uL : U.heap[D + 1]? = some (.loop { lp .ready with state := .busy }) := by rw [← hU]; exact World.putObj_heap_same hin
    have uD : U.heap[D]? = some (.deferred (some [])) := by rw [← hU]; exact (World.putObj_heap_other (by omega)).trans hk
    rw [hU]
    refine wpIn_mono (hbody _ pre x U hx hbt hpl uI) ?_
    rintro e a3 W3 ⟨rfl, hkeep, hi3⟩
    have l3 := hkeep.same _ _ uL rfl
    have d3 := hkeep.same _ _ uD rfl
    have hend := run_endRound (P := Tryd.prog) none l3
    have hin3 : D + 1 < W3.heap.size := (Array.getElem?_eq_some_iff.1 l3).1
    refine ⟨_, _, hend, rfl, hI.putObj _ hi3 (by omega) l3 rfl, ?_, (World.putObj_heap_other (by omega)).trans d3⟩
    exact World.putObj_heap_same hin3
  case done =>
    rintro e W2 ⟨⟨v, rfl⟩, hi, hl, hk⟩
    have hend := run_endLoop (P := Tryd.prog) hl (by rw [elp]; simp)
    exact ⟨none, _, hend, hdone D _ (by omega) (hI.putObj _ hi (by omega) hl rfl) ((World.putObj_heap_other (by omega)).trans hk)⟩
theorem each_loop {n : Nat} {g : Operand} {p : Tmp} {assign body : Code} {Q : Exit → Act → World → Prop} {a : Act} {w : World}
    (s : Nat) (hs : s < 2 ^ 24) (hg : a.eval g = .func (.func 48) #[.int .u64 s] #[]) (B : Nat)
    (I : List Nat → World → Prop) (hI : OwnFrom w.heap.size I) (hT : ∀ pre W, I pre W → TabZ B W) (h0 : I [] w) (a₁ : Nat → Act)
    (hassign : ∀ (l x : Nat) (W : World) (K : Act → World → Prop), K (a₁ x) W →
      assign.wpIn (Fence.wide.inRound l) (n - 1 - 1) Tryd.prog (Exit.then K (fun _ _ _ => False)) { tmps := a.tmps.setIfInBounds p (.int .i64 (x : Nat)), defers := [] } W)
    (hbody : ∀ (l : Nat) (pre : List Nat) (x : Nat) (W : World), x < 24 → pre.length < 24 → I pre W →
      body.wpIn (Fence.wide.inRound l) (n - 1 - 1) Tryd.prog (eachPost I (pre ++ [x]) W) (a₁ x) W)
    (hdone : ∀ (D : Nat) (W : World), w.heap.size ≤ D → I (bitsN s) W → W.heap[D]? = some (.deferred (some [])) →
      Q .normal { a with defers := { target := .collected D, args := #[] } :: a.defers } W) :
    (Code.rangeFunc g #[p] assign body).wpIn Fence.wide n Tryd.prog Q a w :=
  each_loopB s hs hg B I hI hT h0 a₁ hassign (fun l pre x W hx _ hpl hi => hbody l pre x W hx hpl hi) hdone
theorem each_loopP {n : Nat} {g : Operand} {p : Tmp} {assign body : Code} {Q : Exit → Act → World → Prop} {a : Act} {w : World}
    (s : Nat) (hs : s < 2 ^ 24) (hg : a.eval g = .func (.func 48) #[.int .u64 s] #[]) (B : Nat)
    (I : List Nat → World → Prop) (hI : OwnFrom w.heap.size I) (hT : ∀ pre W, I pre W → TabZ B W) (h0 : I [] w) (a₁ : Nat → Act)
    (hassign : ∀ (l x : Nat) (W : World) (K : Act → World → Prop), K (a₁ x) W →
      assign.wpIn (Fence.wide.inRound l) (n - 1 - 1) Tryd.prog (Exit.then K (fun _ _ _ => False)) { tmps := a.tmps.setIfInBounds p (.int .i64 (x : Nat)), defers := [] } W)
    (hbody : ∀ (l : Nat) (pre : List Nat) (x : Nat) (W : World), (∀ z ∈ pre, s.testBit z = true) → s.testBit x = true → pre.length < 24 → I pre W →
      body.wpIn (Fence.wide.inRound l) (n - 1 - 1) Tryd.prog (eachPost I (pre ++ [x]) W) (a₁ x) W)
    (hdone : ∀ (D : Nat) (W : World), w.heap.size ≤ D → I (bitsN s) W → W.heap[D]? = some (.deferred (some [])) →
      Q .normal { a with defers := { target := .collected D, args := #[] } :: a.defers } W) :
    (Code.rangeFunc g #[p] assign body).wpIn Fence.wide n Tryd.prog Q a w :=
  each_loopB s hs hg B (fun pre W => I pre W ∧ ∀ z ∈ pre, s.testBit z = true) (OwnFrom.and hI (fun _ _ _ _ hs _ _ => hs)) (fun pre W h => hT pre W h.1) ⟨h0, fun z hz => by cases hz⟩ a₁ hassign
    (fun l pre x W _ hb hpl hi => wpIn_mono (hbody l pre x W hi.2 hb hpl hi.1) (fun _ _ _ ⟨h1, h2, h3⟩ => ⟨h1, h2, h3, fun z hz => by
      rcases List.mem_append.1 hz with h | h
      · exact hi.2 z h
      · rw [List.mem_singleton.1 h]; exact hb⟩)) (fun D W hD hi hk => hdone D W hD hi.1 hk)
end Go.Proofs.YtfkleihnafeoeaaDoor

namespace Go.Proofs.YtfkleihnafeoeaaDoor
open Go.RowKit Go.Shelf
attribute [local go_sem] Oper.semAt_some
set_option maxRecDepth 1000000
set_option maxHeartbeats 2000000 in
theorem iList (w : World) (s : Nat) (hs : s < 16777216) (B : Nat) (hB0 : B ≤ w.heap.size) (ht : TabZ B w) :
    Calls Tryd.prog 31 #[.int .u64 s] w fun e w' => ∃ v, e = .returned v ∧ w'.ownsRow w.heap.size 3 1 v (bitsN s).length (lstN (bitsN s)) ∧ Below w.heap.size w w' := by
  obtain ⟨i0, hi, hz0, hz1, hz2⟩ := info_parts intInfo
  refine (callsIn_wide (n := 4)).1 ?_
  refine callsIn_of_wp_marks Tryd.func31 rfl trivial ?_ rfl
  simp only [Tryd.ntmps31, List.size_toArray, List.length_cons, List.length_nil, Nat.reduceAdd, Nat.reduceSub, Array.replicate_succ, Array.replicate_zero, List.push_toArray, List.append_toArray, List.nil_append, List.cons_append]
  have hcl := bits_le s
  obtain ⟨c, hc⟩ : ∃ c, Hid ((bitsN s).length = c) := ⟨_, Lib.hid rfl⟩
  have HS := Lib.hid hs
  have hc24 : c ≤ 24 := by rw [← hc.out]; exact hcl
  gi_wp2
  refine ⟨trivial, ?_⟩
  refine (callsIn_wide.2 (iCnt _ s HS.out)).mono ?_
  rw [hc.out]
  rintro e w1 ⟨rfl, rfl⟩
  gi_wp2_with (gi_at_make; refine wpListIn_make_own _ rfl _ _ 22 rfl w.heap.size 3 i0 (.int .i64 0) 1 Tryd.underlying22 hi hz0 hz1 .i64 .i64 c c rfl rfl rfl (by rw [hz2]; omega) (by unfold maxLen; omega) (by simp) ?_; intro w2 hown hgrow)
  have bO := Boxed.new w2 22 (.slice (some ⟨w.heap.size, 0, none⟩) 0 c)
  have hB1 : Below w.heap.size w w2 := (Below.refl w.heap.size w).grown hgrow (Nat.le_refl _) (fun k e => by cases e)
  have hB2 : Below w.heap.size w (w2.alloc (.cells #[.slice (some ⟨w.heap.size, 0, none⟩) 0 c] 22)) := hB1.alloc hB1.size _
  have hsz := hB1.size
  have HB1 := Lib.hid hB1
  refine each_loop s HS.out rfl B
    (fun pre W => (∃ v, Boxed W w2.heap.size 22 v ∧ W.ownsRow w.heap.size 3 1 v pre.length (lstN pre) ∧ True) ∧ Below w.heap.size w W)
    (OwnFrom.and (Own.from (holdsRow_own w.heap.size w2.heap.size 22 3 1 (fun (pre : List Nat) => pre.length) lstN (fun _ _ => True)) _) (ownFrom_below (Nat.le_refl _) (by simp; omega)))
    (fun pre W h => ht.on (h.2.mono hB0))
    ⟨⟨_, bO, (by simpa [lstN] using hown.alloc _), trivial⟩, hB2⟩
    (fun x => { tmps := #[.int .u64 s, undef, .slice none 0 0, .pointer (some ⟨w2.heap.size, 0, none⟩), .int .i64 (x : Nat), .int .u64 s, .int .i64 c, .slice (some ⟨w.heap.size, 0, none⟩) 0 c, .int .u64 s,
      .func (.func 48) #[.int .u64 s] #[], .int .i64 (x : Nat), undef, undef, undef, undef, undef], defers := [] }) ?assign ?body ?done
  case assign =>
    intro l x W K hK
    gi_wp2
    exact hK
  case body =>
    rintro l pre x W hx hpl ⟨⟨v, hv, hrow, -⟩, hB⟩
    have hcl := hv.cell
    gi_wp2_with (gi_at_builtin; refine wpListIn_append_own _ rfl _ _ 22 rfl w.heap.size 3 i0 (.int .i64 0) 1 8 Tryd.underlying22 hi hz0 hz1 hz2 rfl (by decide) _ _ _ rfl (hrow.alloc _) ⟨W.heap.size, 0, none⟩ 1 1 [.int .i64 (x : Nat)] rfl rfl (cell_one_new _ _ _) (by simp [Value.oneCell']) (by unfold maxLen; omega) (by omega) (by have := hB.size; simp; omega) ?_; intro v' w3 hown' hgrow' _; obtain ⟨g', cap', rfl⟩ := ownsRow_succ hown'; obtain ⟨hv1, hv2, hr2, hk2, hb2⟩ := hv.appended (by decide) hrow hB.size hsz hown' hgrow'; have hc1 := hv1.cell; have hf1 := hv1.frozen)
    exact ⟨rfl, hk2, ⟨_, hv2, by rw [lstN_snoc, List.length_append]; exact hr2, trivial⟩, hB.trans hb2⟩
  case done =>
    rintro D W hD ⟨⟨v, hv, hrow, -⟩, hB⟩ hK
    have hcl := hv.cell
    gi_wp2
    refine ⟨by simp, .inl ⟨_, _, rfl, run_takeDeferred hK, ?_⟩⟩
    exact ⟨_, results_tmp rfl _ _ _, v, rfl, ownsRow_putObj hrow _ hK rfl, hB.trans (belowK_b (w := w) (Nat.le_refl _) W D _ _ (by simp at hD; omega) hK rfl rfl)⟩
end Go.Proofs.YtfkleihnafeoeaaDoor

namespace Go.Proofs.YtfkleihnafeoeaaDoor
open Go.RowKit Go.Shelf
set_option maxRecDepth 1000000
set_option maxHeartbeats 4000000 in
theorem iDfs (w : World) (a : Option Addr) (l : List Int) (n cap : Nat) (s : Int) (hn : n = l.length) (hm : n ≤ 9223372036854775807) (hi : Ints w a l) (B : Nat) (hB0 : B ≤ w.heap.size) (ht : TabZ B w) :
    Calls Tryd.prog 13 #[.agg #[.slice a n cap], .int .i64 s] w fun e w' => ∃ v, e = .returned v ∧ w'.ownsRow w.heap.size 3 1 v (dfsE l s).length ((dfsE l s).map (Value.int .i64)) ∧ Below w.heap.size w w' := by
  have HTZ := Lib.hid ht
  clear ht
  have HI := Lib.hid (ints_alloc hi (.cells #[.slice a n cap] 27))
  have HN := Lib.hid hn
  have C1 := newC w (.slice a n cap) 27 (n := w.heap.size) rfl
  have HB := Lib.hid (Joins.below_alloc1 w (.cells #[.slice a n cap] 27))
  have T0 := Lib.hid (Below.refl (w.alloc (.cells #[.slice a n cap] 27)).heap.size (w.alloc (.cells #[.slice a n cap] 27)))
  clear hi hn
  cases hs : isS l s with
  | false =>
    have HS := Lib.hid hs
    rw [show dfsE l s = [] by unfold dfsE; rw [if_neg (by simp [hs])]]
    clear hs
    go_enter Tryd.func13, Tryd.ntmps13
    go_wp2_with (go_at_call 29; refine (iSetIn_no _ _ _ _ _ _ HN.out hm (HI.out.below rfl T0.out) HS.out).mono ?_; rintro e w1 ⟨rfl, hb1⟩; have TA := Lib.hid ((HB.out.trans (hb1.mono (by simp))).alloc (Nat.le_trans (by simp) hb1.size) (.cells #[.int .i64 0, .int .i64 0, .int .i64 0] 45)); have HAL := Lib.hid (heap_alloc_new w1 (.cells #[.int .i64 0, .int .i64 0, .int .i64 0] 45)); obtain ⟨y0, y1, y2, _, _, _⟩ := trip_cell HAL.out)
    go_ret
    exact ⟨_, rfl, World.ownsRow_nil _ _ _ _, TA.out⟩
  | true =>
    have HS := Lib.hid hs
    obtain ⟨hg, s, rfl, hsn, hs24⟩ := isS_true hs
    by_cases h0 : s = 0
    · subst h0
      rw [show dfsE l ((0 : Nat) : Int) = [] by unfold dfsE; rw [if_neg (by simp)]]
      obtain ⟨p, EP⟩ : ∃ p, Hid (l.getD 0 1 = p) := ⟨_, Lib.hid rfl⟩
      obtain ⟨q, EQ⟩ : ∃ q, Hid (l.getD 1 1 = q) := ⟨_, Lib.hid rfl⟩
      obtain ⟨r, ER⟩ : ∃ r, Hid (l.getD 2 1 = r) := ⟨_, Lib.hid rfl⟩
      clear hs hsn hg hs24
      go_enter Tryd.func13, Tryd.ntmps13
      go_wp2_with (go_at_call 29; refine (iSetIn_yes _ _ _ _ _ _ HN.out hm (HI.out.below rfl T0.out) HS.out).mono ?_; rw [EP.out, EQ.out, ER.out]; rintro e w1 ⟨rfl, hb1⟩; have TA := Lib.hid ((HB.out.trans (hb1.mono (by simp))).alloc (Nat.le_trans (by simp) hb1.size) (.cells #[.int .i64 p, .int .i64 q, .int .i64 r] 45)); have HAL := Lib.hid (heap_alloc_new w1 (.cells #[.int .i64 p, .int .i64 q, .int .i64 r] 45)); obtain ⟨y0, y1, y2, _, _, _⟩ := trip_cell HAL.out)
      go_ret
      exact ⟨_, rfl, World.ownsRow_nil _ _ _ _, TA.out⟩
    · have h1 : ((s : Int) == 0) = false := by simp; omega
      have hdf := dfs_yes hs (by omega)
      have HDI := Lib.hid (fun (W : World) => iDiff hg W s hsn h0)
      have HD24 : Hid (dsN l s < 16777216) := Lib.hid (grp_pow hg (ds_lt l s _))
      rw [hdf]
      obtain ⟨D, hDD⟩ : ∃ D, dsN l s = D := ⟨_, rfl⟩
      rw [hDD] at HDI HD24 ⊢
      have HLI : Hid (((bitsN D).map (fun (x : Nat) => (x : Int))).map (Value.int .i64) = lstN (bitsN D)) := Lib.hid (by simp [lstN])
      have HLL : Hid (((bitsN D).map (fun (x : Nat) => (x : Int))).length = (bitsN D).length) := Lib.hid (List.length_map ..)
      obtain ⟨p, EP⟩ : ∃ p, Hid (l.getD 0 1 = p) := ⟨_, Lib.hid rfl⟩
      obtain ⟨q, EQ⟩ : ∃ q, Hid (l.getD 1 1 = q) := ⟨_, Lib.hid rfl⟩
      obtain ⟨r, ER⟩ : ∃ r, Hid (l.getD 2 1 = r) := ⟨_, Lib.hid rfl⟩
      rw [EP.out, EQ.out, ER.out] at HDI
      clear hs hsn hg hDD hdf h0 hs24
      go_enter Tryd.func13, Tryd.ntmps13
      go_wp2_with (first
        | (go_at_call 31; refine (iList _ D HD24.out B (Nat.le_trans hB0 T2.out.size) (HTZ.out.on (T2.out.mono hB0))).mono ?_; rintro e w4 ⟨v4, rfl, ho4, hb4⟩)
        | (go_at_call 30; refine (HDI.out _).mono ?_; rintro e w2 ⟨rfl, hb2⟩; have T2 := Lib.hid (TA.out.trans (hb2.mono TA.out.size)))
        | (go_at_call 29; refine (iSetIn_yes _ _ _ _ _ _ HN.out hm (HI.out.below rfl T0.out) HS.out).mono ?_; rw [EP.out, EQ.out, ER.out]; rintro e w1 ⟨rfl, hb1⟩; have TA := Lib.hid ((HB.out.trans (hb1.mono (by simp))).alloc (Nat.le_trans (by simp) hb1.size) (.cells #[.int .i64 p, .int .i64 q, .int .i64 r] 45)); have HAL := Lib.hid (heap_alloc_new w1 (.cells #[.int .i64 p, .int .i64 q, .int .i64 r] 45)); obtain ⟨y0, y1, y2, _, _, _⟩ := trip_cell HAL.out))
      go_ret
      exact ⟨_, rfl, by rw [HLI.out, HLL.out]; exact Joins.ownsRow_le ho4 T2.out.size, T2.out.trans (hb4.mono T2.out.size)⟩
set_option maxHeartbeats 1000000 in
theorem iIsPr (w : World) (a : Option Addr) (l : List Int) (n cap : Nat) (s : Int) (hn : n = l.length) (hm : n ≤ 9223372036854775807) (hi : Ints w a l) (B : Nat) (hB0 : B ≤ w.heap.size) (ht : TabZ B w) :
    Calls Tryd.prog 10 #[.agg #[.slice a n cap], .int .i64 s] w fun e w' => e = .returned (.bool (decide (0 < ((dfsE l s).length : Int)))) ∧ Below w.heap.size w w' := by
  have HTZ := Lib.hid ht
  clear ht
  have HI := Lib.hid (ints_alloc hi (.cells #[.slice a n cap] 27))
  have HN := Lib.hid hn
  have C1 := newC w (.slice a n cap) 27 (n := w.heap.size) rfl
  have HB := Lib.hid (Joins.below_alloc1 w (.cells #[.slice a n cap] 27))
  have T0 := Lib.hid (Below.refl (w.alloc (.cells #[.slice a n cap] 27)).heap.size (w.alloc (.cells #[.slice a n cap] 27)))
  clear hi hn
  go_enter Tryd.func10, Tryd.ntmps10
  go_wp2_with (go_at_call 13; refine (iDfs _ _ _ _ _ _ HN.out hm (HI.out.below rfl T0.out) B (Nat.le_trans hB0 (by simp)) (HTZ.out.on (HB.out.mono hB0))).mono ?_; rintro e w1 ⟨v1, rfl, ho1, hb1⟩; obtain ⟨a1, cap1, rfl⟩ := own_slice ho1; have T1 := Lib.hid (T0.out.trans (hb1.mono T0.out.size)); clear ho1)
  go_ret
  exact ⟨by rw [show decide (0 < ((dfsE l s).length : Int)) = decide (0 < (dfsE l s).length) from by simp]; rfl, HB.out.trans (T1.out.mono (by simp))⟩
end Go.Proofs.YtfkleihnafeoeaaDoor

namespace Go.Proofs.YtfkleihnafeoeaaDoor
open Go.RowKit
set_option maxRecDepth 1000000
theorem ldS_at {P d : Nat} (h2 : 2 ≤ d) (h : d < P) : ldS P (P - d + 1) = if P % d = 0 then d else ldS P (P - (d + 1) + 1) := by
  show (if P % (P - (P - d)) = 0 then P - (P - d) else ldS P (P - d)) = _
  rw [show P - (P - d) = d by omega, show P - (d + 1) + 1 = P - d by omega]
theorem ldS_end {P d : Nat} (h : ¬ d < P) : ldS P (P - d + 1) = P := by
  rw [show P - d + 1 = 0 + 1 by omega]
  show (if P % (P - 0) = 0 then P - 0 else ldS P 0) = P
  simp
set_option maxHeartbeats 1000000 in
theorem iLd (w : World) (P : Nat) (h1 : 1 ≤ P) (h24 : P ≤ 24) : Calls Tryd.prog 54 #[.int .i64 P] w fun e w' => e = .returned (.int .i64 (ldN P : Nat)) ∧ w = w' := by
  go_enter Tryd.func54, Tryd.ntmps54
  go_wp2
  go_loopw [3] (fun i wr => ∃ d : Nat, 2 ≤ d ∧ (d ≤ P ∨ P = 1) ∧ i = .int .i64 d ∧ Hid (ldN P = ldS P (P - d + 1)) ∧ w = wr) (fun i _ => P - (intOf i).toNat)
  case atStart => exact ⟨2, by omega, by omega, rfl, Lib.hid (by
    unfold ldN
    by_cases h : P = 1
    · subst h; rfl
    · rw [show P - 2 + 1 = P - 1 by omega]), rfl⟩
  case round =>
    obtain ⟨d, hd2, hdP, rfl, HL, rfl⟩ := hrel
    by_cases hlt : d < P
    · have hd24 : d ≤ 24 := by omega
      have hdi : (d : Int) < (P : Int) := by omega
      have hd0 : ((d : Int) == 0) = false := by simp; omega
      by_cases hz : P % d = 0
      · have hL := HL.out
        rw [ldS_at hd2 hlt, if_pos hz] at hL
        have hm0 : (P : Int) % (d : Int) = 0 := by omega
        have ht0 : Int.tmod (P : Int) (d : Int) = 0 := by rw [Int.tmod_eq_emod_of_nonneg (by omega)]; exact hm0
        have HL2 := Lib.hid hL
        clear HL hL hz
        go_wp2
        go_ret
        exact ⟨by rw [HL2.out]; rfl, rfl⟩
      · have hL := HL.out
        rw [ldS_at hd2 hlt, if_neg hz] at hL
        have HL2 := Lib.hid hL
        have hm0 : ((P : Int) % (d : Int) == 0) = false := by
          have : (P : Int) % (d : Int) ≠ 0 := by omega
          simpa using this
        have ht0 : (Int.tmod (P : Int) (d : Int) == 0) = false := by rw [Int.tmod_eq_emod_of_nonneg (by omega)]; exact hm0
        clear HL hL hz
        go_wp2
        go_roundw
        case rel => exact ⟨d + 1, by omega, by omega, by go_num, HL2, by first | trivial | rfl⟩
        case measure => simp [intOf]; omega
    · have hL := HL.out
      rw [ldS_end hlt] at hL
      have HL2 := Lib.hid hL
      have hdi : ¬ (d : Int) < (P : Int) := by omega
      clear HL hL
      go_wp2
      go_ret
      exact ⟨by rw [HL2.out]; rfl, rfl⟩
end Go.Proofs.YtfkleihnafeoeaaDoor

namespace Go.Proofs.YtfkleihnafeoeaaDoor
open Go.RowKit
set_option maxRecDepth 1000000
set_option maxHeartbeats 2000000 in
theorem iPrm (w : World) (a : Option Addr) (l : List Int) (n cap : Nat) (hn : n = l.length) (hm : n ≤ 9223372036854775807) (hi : Ints w a l) :
    Calls Tryd.prog 36 #[.agg #[.slice a n cap]] w fun e w' => e = .returned (.bool (prmB l)) ∧ Below w.heap.size w w' := by
  have HI := Lib.hid (ints_alloc hi (.cells #[.slice a n cap] 27))
  have HN := Lib.hid hn
  have C1 := newC w (.slice a n cap) 27 (n := w.heap.size) rfl
  have HB := Lib.hid (Joins.below_alloc1 w (.cells #[.slice a n cap] 27))
  have T0 := Lib.hid (Below.refl (w.alloc (.cells #[.slice a n cap] 27)).heap.size (w.alloc (.cells #[.slice a n cap] 27)))
  clear hi hn
  cases hg : grpB l with
  | false =>
    have HO : Hid (ordN l = 0) := Lib.hid (by unfold ordN; rw [hg]; rfl)
    rw [show prmB l = false by unfold prmB; rw [hg]; rfl]
    clear hg
    go_enter Tryd.func36, Tryd.ntmps36
    go_wp2_with (go_at_call 53; refine (iOrderOf _ _ _ _ _ HN.out hm (HI.out.below rfl T0.out)).mono ?_; rw [HO.out]; rintro e w1 ⟨rfl, hb1⟩; have T1 := Lib.hid (HB.out.trans (hb1.mono (by simp))))
    go_ret
    exact ⟨rfl, T1.out⟩
  | true =>
    have hp := (ords_grp hg).prod
    rw [prm_ld hg]
    obtain ⟨N, hNN⟩ : ∃ N : Nat, (prodI l).toNat = N := ⟨_, rfl⟩
    have HO : Hid (ordN l = (N : Int)) := Lib.hid (by rw [ordN_grp hg]; omega)
    rw [hNN]
    have hN1 : 1 ≤ N := by omega
    have hN24 : N ≤ 24 := by omega
    have HLD := Lib.hid (fun (W : World) => iLd W N hN1 hN24)
    obtain ⟨L, hL⟩ : ∃ L, ldN N = L := ⟨_, rfl⟩
    rw [hL] at HLD ⊢
    clear hg hNN hL hp
    by_cases h : 1 < N
    · have hd : (1 : Int) < (N : Int) := by omega
      rw [decide_eq_true h, Bool.true_and]
      go_enter Tryd.func36, Tryd.ntmps36
      go_wp2_with (first
        | (go_at_call 54; refine (HLD.out _).mono ?_; rintro e w2 ⟨rfl, rfl⟩)
        | (go_at_call 53; refine (iOrderOf _ _ _ _ _ HN.out hm (HI.out.below rfl T0.out)).mono ?_; rw [HO.out]; rintro e w1 ⟨rfl, hb1⟩; have T1 := Lib.hid (HB.out.trans (hb1.mono (by simp)))))
      go_ret
      exact ⟨rfl, T1.out⟩
    · have hd : ¬ (1 : Int) < (N : Int) := by omega
      rw [decide_eq_false h, Bool.false_and]
      go_enter Tryd.func36, Tryd.ntmps36
      go_wp2_with (go_at_call 53; refine (iOrderOf _ _ _ _ _ HN.out hm (HI.out.below rfl T0.out)).mono ?_; rw [HO.out]; rintro e w1 ⟨rfl, hb1⟩; have T1 := Lib.hid (HB.out.trans (hb1.mono (by simp))))
      go_ret
      exact ⟨rfl, T1.out⟩
end Go.Proofs.YtfkleihnafeoeaaDoor

namespace Go.Proofs.YtfkleihnafeoeaaDoor
open Go.RowKit Go.Extern.Stop Go.Stop Go.Extern
set_option maxRecDepth 1000000
/-- How many package-level variables the program has: a type's handle points behind them. -/
noncomputable def gN : Nat := Tryd.prog.globals.size
/-- The library's variable errorType holds its handle, below block B. -/
def ErrB (B : Nat) (w : World) : Prop := 0 < B ∧ w.cell? ⟨0, 0, none⟩ = some (.iface 98 (.agg #[.pointer (some ⟨gN, 55, none⟩)]))
theorem ErrB.on {B : Nat} {w w1 : World} (h : ErrB B w) (hb : Below B w w1) : ErrB B w1 := ⟨h.1, keepC hb h.1 h.2⟩
theorem er_nil (t : Value) (w : World) : Calls Tryd.prog 52 #[.nilIface, t] w fun e w' => e = .returned (.bool false) ∧ w = w' := by
  go_enter Tryd.func52, Tryd.ntmps52
  go_wp2
  go_ret
  exact ⟨rfl, rfl⟩
theorem er_vP (t : Addr) (w : World) : (ReflectliteValue.unpack (.iface 73 (.pointer (some t)))).run Tryd.prog w
    = .ok (.agg #[.pointer (some ⟨gN, 73, none⟩), .pointer (some ⟨w.heap.size, 0, none⟩), .int .u64 150]) (w.alloc (.cells #[.pointer (some t)] 73)) := by kernel_rfl
theorem er_tP (a : Addr) (w : World) : (ReflectliteValue.methodAny (ReflectliteValue.valueError "reflectlite.Value.Type" 0) (fun t _ _ _ => ReflectliteType.toType t) #[.agg #[.pointer (some ⟨gN, 73, none⟩), .pointer (some a), .int .u64 150]]).run Tryd.prog w
    = .ok (.iface 98 (.agg #[.pointer (some ⟨gN, 73, none⟩)])) w := by kernel_rfl
theorem er_kP (w : World) : ((ReflectliteType.abiMethod fun t => (fun a : Nat => Value.int IntKind.u8 (a : Int)) <$> Rtype.kind t) #[.pointer (some ⟨gN, 73, none⟩)]).run Tryd.prog w = .ok (.int .u8 22) w := by kernel_rfl
theorem er_kS (w : World) : ((ReflectliteType.abiMethod fun t => (fun a : Nat => Value.int IntKind.u8 (a : Int)) <$> Rtype.kind t) #[.pointer (some ⟨gN, 71, none⟩)]).run Tryd.prog w = .ok (.int .u8 25) w := by kernel_rfl
/-- An entry that first asks for the parts of a Value. -/
theorem er_one {S : Sem Value} {v : Value} {T : TypeId} {a : Addr} {fl : Nat} {W : World} {R : Result Value} (g : Option (TypeId × Addr × Nat) → Sem Value) (h : S = ReflectliteValue.parts v >>= g)
    (hp : (ReflectliteValue.parts v).run Tryd.prog W = .ok (some (T, a, fl)) W) (hr : (g (some (T, a, fl))).run Tryd.prog W = R) : S.run Tryd.prog W = R := by
  rw [h]
  simp only [Sem.run_bind, hp, Result.andThen]
  exact hr
/-- An entry that first asks for the parts of two Values. -/
theorem er_two {S : Sem Value} {v x : Value} {T U : TypeId} {a b : Addr} {fl fk : Nat} {W : World} {R : Result Value} (g : Option (TypeId × Addr × Nat) → Option (TypeId × Addr × Nat) → Sem Value)
    (h : S = ReflectliteValue.parts v >>= fun y => ReflectliteValue.parts x >>= fun z => g y z)
    (hp : (ReflectliteValue.parts v).run Tryd.prog W = .ok (some (T, a, fl)) W) (hq : (ReflectliteValue.parts x).run Tryd.prog W = .ok (some (U, b, fk)) W)
    (hr : (g (some (T, a, fl)) (some (U, b, fk))).run Tryd.prog W = R) : S.run Tryd.prog W = R := by
  rw [h]
  simp only [Sem.run_bind, hp, hq, Result.andThen]
  exact hr
theorem er_pP (a : Addr) (w : World) : (ReflectliteValue.parts (.agg #[.pointer (some ⟨gN, 73, none⟩), .pointer (some a), .int .u64 150])).run Tryd.prog w = .ok (some (73, a, 150)) w := by kernel_rfl
theorem er_nP (a p : Addr) (W : World) (ha : W.cell? a = some (.pointer (some p))) :
    (ReflectliteValue.method (ReflectliteValue.valueError "reflectlite.Value.IsNil" 0) ReflectliteValue.isNil #[.agg #[.pointer (some ⟨gN, 73, none⟩), .pointer (some a), .int .u64 150]]).run Tryd.prog W = .ok (.bool false) W := by
  refine er_one _ rfl (er_pP a W) ?_
  simp [ReflectliteValue.isNil, loadVar, isAgg, underlying, Tryd.underlying73, ha, Result.andThen]
theorem er_eP (w : World) : (ReflectliteType.method ReflectliteType.elem #[.agg #[.pointer (some ⟨gN, 73, none⟩)]]).run Tryd.prog w = .ok (.iface 98 (.agg #[.pointer (some ⟨gN, 71, none⟩)])) w := by kernel_rfl
theorem er_iS (w : World) : (ReflectliteType.relation "Implements" ReflectliteType.implements_ #[.agg #[.pointer (some ⟨gN, 71, none⟩)], .iface 98 (.agg #[.pointer (some ⟨gN, 55, none⟩)])]).run Tryd.prog w = .ok (.bool true) w := by kernel_rfl
theorem er_tS (v : Value) (w : World) : (ReflectliteType.typeOf #[.iface 71 v]).run Tryd.prog w = .ok (.iface 98 (.agg #[.pointer (some ⟨gN, 71, none⟩)])) w := by kernel_rfl
theorem er_aS (w : World) : (ReflectliteType.relation "AssignableTo" ReflectliteType.assignableTo #[.agg #[.pointer (some ⟨gN, 71, none⟩)], .iface 98 (.agg #[.pointer (some ⟨gN, 71, none⟩)])]).run Tryd.prog w = .ok (.bool true) w := by kernel_rfl
theorem er_vS (x y : Value) (w : World) : (ReflectliteValue.unpack (.iface 71 (.agg #[x, y]))).run Tryd.prog w
    = .ok (.agg #[.pointer (some ⟨gN, 71, none⟩), .pointer (some ⟨w.heap.size, 0, none⟩), .int .u64 153]) (w.alloc (.cells #[x, y] 71)) := by kernel_rfl
theorem er_oP (w : World) : (Rtype.elem? 73).run Tryd.prog w = .ok (some 71) w := by kernel_rfl
theorem er_mS (p : Addr) (w : World) : (ReflectliteValue.mk 71 p ReflectliteValue.flagAddr).run Tryd.prog w = .ok (.agg #[.pointer (some ⟨gN, 71, none⟩), .pointer (some p), .int .u64 409]) w := by kernel_rfl
theorem er_lP (a p : Addr) (W : World) (ha : W.cell? a = some (.pointer (some p))) :
    (ReflectliteValue.method (ReflectliteValue.valueError "reflectlite.Value.Elem" 0) ReflectliteValue.elem #[.agg #[.pointer (some ⟨gN, 73, none⟩), .pointer (some a), .int .u64 150]]).run Tryd.prog W
      = .ok (.agg #[.pointer (some ⟨gN, 71, none⟩), .pointer (some p), .int .u64 409]) W := by
  refine er_one _ rfl (er_pP a W) ?_
  simp [ReflectliteValue.elem, loadVar, isAgg, underlying, Tryd.underlying73, ha, Result.andThen, er_oP, er_mS]
theorem er_pSa (a : Addr) (w : World) : (ReflectliteValue.parts (.agg #[.pointer (some ⟨gN, 71, none⟩), .pointer (some a), .int .u64 409])).run Tryd.prog w = .ok (some (71, a, 409)) w := by kernel_rfl
theorem er_pS (a : Addr) (w : World) : (ReflectliteValue.parts (.agg #[.pointer (some ⟨gN, 71, none⟩), .pointer (some a), .int .u64 153])).run Tryd.prog w = .ok (some (71, a, 153)) w := by kernel_rfl
theorem er_dS (w : World) : (Rtype.directlyAssignable 71 71).run Tryd.prog w = .ok true w := by kernel_rfl
theorem er_gS (w : World) : (isAgg 71).run Tryd.prog w = .ok true w := by kernel_rfl
theorem er_zS (w : World) : (sizeOf 71).run Tryd.prog w = .ok 2 w := by kernel_rfl
theorem er_info : ∃ i, Tryd.prog.info? 71 = some i ∧ i.size = 2 := by
  have h : (Tryd.prog.info? 71).isSome = true := by kernel_rfl
  obtain ⟨i, hi⟩ := Option.isSome_iff_exists.1 h
  have h2 : (Tryd.prog.info? 71).map (·.size) = some 2 := by kernel_rfl
  rw [hi] at h2
  exact ⟨i, hi, by simpa using h2⟩
/-- The target's two cells get those of the error. -/
theorem er_sS (tb b : Nat) (x y : ByteArray) (W : World) (hx : W.cell? ⟨b, 0, none⟩ = some (.string x)) (hy : W.cell? ⟨b, 1, none⟩ = some (.string y))
    (h0 : (W.cell? ⟨tb, 0, none⟩).isSome = true) (h1 : (W.cell? ⟨tb, 1, none⟩).isSome = true) (f0 : W.frozen? ⟨tb, 0, none⟩ = false) (f1 : W.frozen? ⟨tb, 1, none⟩ = false) :
    (ReflectliteValue.set #[.agg #[.pointer (some ⟨gN, 71, none⟩), .pointer (some ⟨tb, 0, none⟩), .int .u64 409], .agg #[.pointer (some ⟨gN, 71, none⟩), .pointer (some ⟨b, 0, none⟩), .int .u64 153]]).run Tryd.prog W
      = .ok (.tuple #[]) ((W.setCell ⟨tb, 0, none⟩ (.string x)).setCell ⟨tb, 1, none⟩ (.string y)) := by
  obtain ⟨i, hi, hs⟩ := er_info
  have hl := Lib.rl_loadVar_cells (P := Tryd.prog) 71 i hi er_gS b 0 [.string x, .string y] (by rw [hs]; rfl) W (fun k v h => by
    rcases k with _ | _ | k
    · simp at h; subst h; simpa using hx
    · simp at h; subst h; simpa using hy
    · simp at h)
  have hst := Lib.rl_storeVar_cells (P := Tryd.prog) 71 i hi tb 0 [.string x, .string y] (by rw [hs]; rfl) (fun v h => by simp at h; rcases h with rfl | rfl <;> rfl) W (fun k hk => by
    rcases k with _ | _ | k
    · simpa using h0
    · simpa using h1
    · simp only [List.length_cons, List.length_nil] at hk; omega) (fun k hk => by
    rcases k with _ | _ | k
    · simpa using f0
    · simpa using f1
    · simp only [List.length_cons, List.length_nil] at hk; omega)
  refine er_two _ rfl (er_pSa _ W) (er_pS _ W) ?_
  simp [ReflectliteValue.flagAddr, Result.andThen, er_dS]
  rw [show (Value.agg [Value.string x, Value.string y].toArray) = .agg #[.string x, .string y] from rfl] at hl hst
  simp [hl, hst, World.setCells]
theorem er_mK (n : Nat) (h : Value) (w : World) : (Go.method (n + 1) 98 (.agg #[h]) "Kind").run Tryd.prog w = .ok (87, h) w := by kernel_rfl
theorem er_mE (n : Nat) (h : Value) (w : World) : (Go.method (n + 1) 98 (.agg #[h]) "Elem").run Tryd.prog w = .ok (98, .agg #[h]) w := by kernel_rfl
theorem er_mI (n : Nat) (h : Value) (w : World) : (Go.method (n + 1) 98 (.agg #[h]) "Implements").run Tryd.prog w = .ok (99, .agg #[h]) w := by kernel_rfl
theorem er_mA (n : Nat) (h : Value) (w : World) : (Go.method (n + 1) 98 (.agg #[h]) "AssignableTo").run Tryd.prog w = .ok (96, .agg #[h]) w := by kernel_rfl
theorem duo_cell {w : World} {B : Nat} {x y : Value} {T : TypeId} (h : w.heap[B]? = some (.cells #[x, y] T (0, 0))) :
    w.cell? ⟨B, 0, none⟩ = some x ∧ w.cell? ⟨B, 1, none⟩ = some y ∧ w.frozen? ⟨B, 0, none⟩ = false ∧ w.frozen? ⟨B, 1, none⟩ = false :=
  ⟨by simp [World.cell?, h], by simp [World.cell?, h], by simp [World.frozen?, h], by simp [World.frozen?, h]⟩
set_option maxHeartbeats 4000000 in
theorem er_as (w : World) (x y x0 y0 : ByteArray) (tb : Nat) (hg : w.cell? ⟨0, 0, none⟩ = some (.iface 98 (.agg #[.pointer (some ⟨gN, 55, none⟩)]))) (ht0 : w.heap[tb]? = some (.cells #[.string x0, .string y0] 71 (0, 0))) :
    Calls Tryd.prog 52 #[.iface 71 (.agg #[.string x, .string y]), .iface 73 (.pointer (some ⟨tb, 0, none⟩))] w fun e w' => e = .returned (.bool true) ∧ Below tb w w' := by
  have h6 := @run_callFunc_extern Tryd.prog 62 _ (fun args => ReflectliteValue.unpack (args.getD 0 (.tuple #[]))) Tryd.func62 (by kernel_rfl) (by kernel_rfl) (by kernel_rfl) (by kernel_rfl)
  have h7 := @run_callFunc_extern Tryd.prog 63 _ (ReflectliteValue.methodAny (ReflectliteValue.valueError "reflectlite.Value.Type" 0) (fun t _ _ _ => ReflectliteType.toType t)) Tryd.func63 (by kernel_rfl) (by kernel_rfl) (by kernel_rfl) (by kernel_rfl)
  have h8 := @run_callFunc_extern Tryd.prog 64 _ (ReflectliteValue.method (ReflectliteValue.valueError "reflectlite.Value.IsNil" 0) ReflectliteValue.isNil) Tryd.func64 (by kernel_rfl) (by kernel_rfl) (by kernel_rfl) (by kernel_rfl)
  have h27 := @run_callFunc_extern Tryd.prog 87 _ (ReflectliteType.abiMethod fun t => do pure (.int .u8 (← Rtype.kind t))) Tryd.func87 (by kernel_rfl) (by kernel_rfl) (by kernel_rfl) (by kernel_rfl)
  have h37 := @run_callFunc_extern Tryd.prog 98 _ (ReflectliteType.method ReflectliteType.elem) Tryd.func98 (by kernel_rfl) (by kernel_rfl) (by kernel_rfl) (by kernel_rfl)
  have h38 := @run_callFunc_extern Tryd.prog 99 _ (ReflectliteType.relation "Implements" ReflectliteType.implements_) Tryd.func99 (by kernel_rfl) (by kernel_rfl) (by kernel_rfl) (by kernel_rfl)
  have h10 := @run_callFunc_extern Tryd.prog 70 _ ReflectliteType.typeOf Tryd.func70 (by kernel_rfl) (by kernel_rfl) (by kernel_rfl) (by kernel_rfl)
  have h35 := @run_callFunc_extern Tryd.prog 96 _ (ReflectliteType.relation "AssignableTo" ReflectliteType.assignableTo) Tryd.func96 (by kernel_rfl) (by kernel_rfl) (by kernel_rfl) (by kernel_rfl)
  have h11 := @run_callFunc_extern Tryd.prog 71 _ (ReflectliteValue.method (ReflectliteValue.valueError "reflectlite.Value.Elem" 0) ReflectliteValue.elem) Tryd.func71 (by kernel_rfl) (by kernel_rfl) (by kernel_rfl) (by kernel_rfl)
  have h12 := @run_callFunc_extern Tryd.prog 72 _ ReflectliteValue.set Tryd.func72 (by kernel_rfl) (by kernel_rfl) (by kernel_rfl) (by kernel_rfl)
  have tO := er_tS
  have mA := er_mA
  have a25 := er_aS
  have v25 := er_vS
  have f6 := er_vP
  have f7 := er_tP
  have mK := er_mK
  have mE := er_mE
  have mI := er_mI
  have k27 := er_kP
  have k25 := er_kS
  have e27 := er_eP
  have i25 := er_iS
  have htl : tb < w.heap.size := by
    rcases Nat.lt_or_ge tb w.heap.size with h | h
    · exact h
    · simp [Array.getElem?_eq_none h] at ht0
  have hlt : 0 < w.heap.size := World.block_lt_of_cell? w _ hg
  have n8 := er_nP ⟨w.heap.size, 0, none⟩ ⟨tb, 0, none⟩ ((w.alloc (.cells #[.pointer (some ⟨tb, 0, none⟩)] 73)).alloc (.cells #[.pointer (some ⟨gN, 73, none⟩), .pointer (some ⟨w.heap.size, 0, none⟩), .int .u64 150] 83)) (by simp)
  have hg2 : ((w.alloc (.cells #[.pointer (some ⟨tb, 0, none⟩)] 73)).alloc (.cells #[.pointer (some ⟨gN, 73, none⟩), .pointer (some ⟨w.heap.size, 0, none⟩), .int .u64 150] 83)).cell? ⟨0, 0, none⟩ = some (.iface 98 (.agg #[.pointer (some ⟨gN, 55, none⟩)])) := by
    rw [World.cell?_alloc_lt _ _ ⟨0, 0, none⟩ (by simp), World.cell?_alloc_lt _ _ ⟨0, 0, none⟩ hlt]; exact hg
  have el := er_lP ⟨w.heap.size, 0, none⟩ ⟨tb, 0, none⟩ (((w.alloc (.cells #[.pointer (some ⟨tb, 0, none⟩)] 73)).alloc (.cells #[.pointer (some ⟨gN, 73, none⟩), .pointer (some ⟨w.heap.size, 0, none⟩), .int .u64 150] 83)).alloc (.cells #[.pointer (some ⟨gN, 73, none⟩), .pointer (some ⟨w.heap.size, 0, none⟩), .int .u64 150] 83)) (by rw [World.cell?_alloc_lt _ _ ⟨w.heap.size, 0, none⟩ (by simp; omega)]; simp)
  have hB4 : Below w.heap.size w ((((w.alloc (.cells #[.pointer (some ⟨tb, 0, none⟩)] 73)).alloc (.cells #[.pointer (some ⟨gN, 73, none⟩), .pointer (some ⟨w.heap.size, 0, none⟩), .int .u64 150] 83)).alloc (.cells #[.pointer (some ⟨gN, 73, none⟩), .pointer (some ⟨w.heap.size, 0, none⟩), .int .u64 150] 83)).alloc (.cells #[.string x, .string y] 71)) := Below.alloc (Below.alloc (Below.alloc (Joins.below_alloc1 w _) (by simp) _) (by simp; omega) _) (by simp; omega) _
  have R4 := keepH hB4 htl ht0
  have C4 : ((((w.alloc (.cells #[.pointer (some ⟨tb, 0, none⟩)] 73)).alloc (.cells #[.pointer (some ⟨gN, 73, none⟩), .pointer (some ⟨w.heap.size, 0, none⟩), .int .u64 150] 83)).alloc (.cells #[.pointer (some ⟨gN, 73, none⟩), .pointer (some ⟨w.heap.size, 0, none⟩), .int .u64 150] 83)).alloc (.cells #[.string x, .string y] 71)).heap[w.heap.size + 1 + 1 + 1]? = some (.cells #[.string x, .string y] 71 (0, 0)) := by simpa using heap_alloc_new (((w.alloc (.cells #[.pointer (some ⟨tb, 0, none⟩)] 73)).alloc (.cells #[.pointer (some ⟨gN, 73, none⟩), .pointer (some ⟨w.heap.size, 0, none⟩), .int .u64 150] 83)).alloc (.cells #[.pointer (some ⟨gN, 73, none⟩), .pointer (some ⟨w.heap.size, 0, none⟩), .int .u64 150] 83)) (.cells #[.string x, .string y] 71)
  have st := er_sS tb (w.heap.size + 1 + 1 + 1) x y ((((w.alloc (.cells #[.pointer (some ⟨tb, 0, none⟩)] 73)).alloc (.cells #[.pointer (some ⟨gN, 73, none⟩), .pointer (some ⟨w.heap.size, 0, none⟩), .int .u64 150] 83)).alloc (.cells #[.pointer (some ⟨gN, 73, none⟩), .pointer (some ⟨w.heap.size, 0, none⟩), .int .u64 150] 83)).alloc (.cells #[.string x, .string y] 71)) (duo_cell C4).1 (duo_cell C4).2.1 (by rw [(duo_cell R4).1]; rfl) (by rw [(duo_cell R4).2.1]; rfl) (duo_cell R4).2.2.1 (duo_cell R4).2.2.2
  have hB5 := Below.setCell (Below.setCell (hB4.mono (Nat.le_of_lt htl)) (p := ⟨tb, 0, none⟩) (Nat.le_refl _) (.string x)) (p := ⟨tb, 1, none⟩) (Nat.le_refl _) (.string y)
  clear hB4 R4 C4 ht0
  go_enter Tryd.func52, Tryd.ntmps52
  go_wp2
  refine wp_loop_rounds 1 ?_
  rw [rounds_succ]
  go_wp2
  go_ret
  exact ⟨rfl, hB5⟩
/-- No error is not refused. -/
theorem iRef_no (w : World) : Calls Tryd.prog 35 #[.nilIface] w fun e w' => e = .returned (.bool false) ∧ Below w.heap.size w w' := by
  go_enter Tryd.func35, Tryd.ntmps35
  go_wp2_with (go_at_call 52; refine (er_nil _ _).mono ?_; rintro e w1 ⟨rfl, rfl⟩)
  go_ret
  exact ⟨rfl, Joins.below_alloc1 w _⟩
/-- The program's own error is refused. -/
theorem iRef_yes (w : World) (x y : ByteArray) (B : Nat) (hB0 : B ≤ w.heap.size) (he : ErrB B w) : Calls Tryd.prog 35 #[.iface 71 (.agg #[.string x, .string y])] w fun e w' => e = .returned (.bool true) ∧ Below w.heap.size w w' := by
  have HC := Lib.hid (keepC (Joins.below_alloc1 w (.cells #[.string ByteArray.empty, .string ByteArray.empty] 71)) (Nat.lt_of_lt_of_le he.1 hB0) he.2)
  have HT := Lib.hid (heap_alloc_new w (.cells #[.string ByteArray.empty, .string ByteArray.empty] 71))
  have HB := Lib.hid (Joins.below_alloc1 w (.cells #[.string ByteArray.empty, .string ByteArray.empty] 71))
  clear he
  go_enter Tryd.func35, Tryd.ntmps35
  go_wp2_with (go_at_call 52; refine (er_as _ x y ByteArray.empty ByteArray.empty w.heap.size HC.out HT.out).mono ?_; rintro e w1 ⟨rfl, hb1⟩)
  go_ret
  exact ⟨rfl, HB.out.trans hb1⟩
end Go.Proofs.YtfkleihnafeoeaaDoor

namespace Go.Proofs.YtfkleihnafeoeaaDoor
open Go.RowKit Go.Shelf
section
variable {P : Program} {Q : Exit → Act → World → Prop} {l n : Nat}
theorem oper_round {o : Oper} {a : Act} {w : World} {K K' : Act → World → Prop} (hd : ∀ c, o.op ≠ .defer c) (h : o.wp P a w K Q) (hK : ∀ a w, K a w → K' a w) :
    o.wpIn (Fence.wide.inRound l) n P a w K' Q := by
  unfold Oper.wp at h
  unfold Oper.wpIn
  refine ⟨fun _ _ => trivial, ?_⟩
  rw [Oper.semAt_eq _ _ _ hd]
  generalize (execOp a.eval o).run P w = r at h
  have hno : (Fence.wide.inRound l).depth.isSome = true → 1 ≤ n := fun e => by simp [Fence.wide] at e
  cases r with
  | ok x w' =>
    cases x with
    | value v => exact hK _ _ h
    | skip => exact hK _ _ h
    | defer d => exact hK _ _ h
    | enter f args =>
      refine ⟨hno, CallsIn.inRound l (callsIn_wide.2 (Calls.mono h ?_))⟩
      intro e w'' he
      cases e with
      | returned v => exact hK _ _ he
      | panicked c => exact he
      | outgrown => exact he
    | row row args =>
      refine ⟨hno, fun c cs _ => ?_⟩
      obtain ⟨v, w'', r, s⟩ := h c cs
      exact ⟨v, w'', hK _ _ r, stepsIn_wide.2 s⟩
    | _ => exact (h : False).elim
  | halt x w' =>
    cases x with
    | panic v => exact h
    | _ => exact (h : False).elim
theorem any_round {md : Region.Mode} {ops : Array Oper} (hd : ∀ (i : Nat) (o : Oper), ops[i]? = some o → ∀ c, o.op ≠ .defer c) (hQ : ¬ LetsOut Q) :
    ∀ (fuel : Nat) (listed : Array Bool) (a : Act) (w : World), wpAny P md ops Q fuel listed a w → wpAnyIn (Fence.wide.inRound l) n P md ops Q fuel listed a w
  | 0, _, _, _, h => h
  | fuel + 1, listed, a, w, h => ⟨h.1, fun i hi => by
    have h2 := h.2 i hi
    unfold wpOp at h2
    unfold wpOpIn
    cases ho : ops[i]? with
    | none => rw [ho] at h2; exact any_round hd hQ fuel _ _ _ h2
    | some o =>
      rw [ho] at h2
      simp only at h2 ⊢
      split
      · next hw =>
        rw [if_pos hw] at h2
        rcases h2 with h3 | h3
        · exact oper_round (hd i o ho) h3 (fun a w h4 => any_round hd hQ fuel _ _ _ h4)
        · exact absurd h3.2 hQ
      · next hw =>
        rw [if_neg hw] at h2
        exact ⟨fun _ _ => trivial, any_round hd hQ fuel _ _ _ h2⟩⟩
theorem region_round {id : Nat} {ops : Array Oper} {S : World → Prop} {a : Act} {w : World} (hm : P.follows .mixedOrders = true) (hd : ∀ (i : Nat) (o : Oper), ops[i]? = some o → ∀ c, o.op ≠ .defer c) (hQ : ¬ LetsOut Q) (hS : S w.drew)
    (h : S w.drew → wpAnyH P .any ops Q S ops.size (Array.replicate ops.size false) a w.drew) : (Code.region id ops true).wpIn (Fence.wide.inRound l) n P Q a w :=
  wpIn_region_any hm (any_round hd hQ _ _ _ _ (wpAny_of_held _ _ _ _ (h hS)))
end
end Go.Proofs.YtfkleihnafeoeaaDoor

namespace Go.Proofs.YtfkleihnafeoeaaDoor
open Go.RowKit Go.Shelf
attribute [local go_sem] Oper.semAt_some
set_option maxRecDepth 1000000
/-- A block of cells stays as it is where blocks that are no cells turn. -/
theorem cells_own {β : Type} (b : Nat) (f : β → Array Value) (t : TypeId) : Own (fun (s : β) W => W.heap[b]? = some (.cells (f s) t (0, 0))) := fun s W W' row hs hg hr =>
  (hg.block b (Array.getElem?_eq_some_iff.1 hs).1 (fun e => by obtain ⟨o, ho, hc⟩ := hr b e.symm; rw [hs] at ho; cases ho; cases hc)).trans hs
def isDef : Op → Bool
  | .defer _ => true
  | _ => false
theorem no_defer {ops : Array Oper} (h : (ops.toList.all fun o => !isDef o.op) = true) : ∀ (i : Nat) (o : Oper), ops[i]? = some o → ∀ c, o.op ≠ .defer c := fun i o ho c e => by
  have h1 := List.all_eq_true.1 h o (by rw [← Array.getElem?_toList] at ho; exact List.mem_of_getElem? ho)
  rw [e] at h1
  cases h1
theorem keeps_below {W W' : World} (h : Below W.drew.heap.size W.drew W') : KeepsOthers W W' := ⟨h.size, fun k _ ho _ => (h.block k (Array.getElem?_eq_some_iff.1 ho).1).trans ho⟩
end Go.Proofs.YtfkleihnafeoeaaDoor

namespace Go.Proofs.YtfkleihnafeoeaaDoor
open Go.RowKit Go.Shelf
attribute [local go_sem] Oper.semAt_some
set_option maxRecDepth 1000000
/-- The set s moved by x, by the three places. -/
def shG (p q r : Int) (s x : Nat) : Nat := orF (shF p q r ((x : Int) % p) ((x : Int) / p % q) ((x : Int) / p / q % r)) (bitsN s)
theorem shG_lt {p q r : Int} (h : Tri p q r) {s x : Nat} (hs : s < 2 ^ (p * q * r).toNat) (hx : (x : Int) < p * q * r) : shG p q r s x < 2 ^ (p * q * r).toNat := by
  have hp : ((p.toNat : Nat) : Int) = p := Int.toNat_of_nonneg (by have := h.p1; omega)
  have hq : ((q.toNat : Nat) : Int) = q := Int.toNat_of_nonneg (by have := h.q1; omega)
  have hr : ((r.toNat : Nat) : Int) = r := Int.toNat_of_nonneg (by have := h.r1; omega)
  obtain ⟨h1, h2, h3, h4, h5, h6, h7, h8, h9, h10⟩ := h
  have e : p.toNat * q.toNat * r.toNat = (p * q * r).toNat := by
    have : ((p.toNat * q.toNat * r.toNat : Nat) : Int) = p * q * r := by rw [Int.natCast_mul, Int.natCast_mul, hp, hq, hr]
    omega
  have g1 := shN_orF (p := p.toNat) (q := q.toNat) (r := r.toNat) (x := x) (s := s) (by omega) (by omega) (by omega) (by omega) (by omega) (by rw [e]; exact hs)
  have g2 := (shN_bit (p := p.toNat) (q := q.toNat) (r := r.toNat) (x := x) (s := s) (by omega) (by omega) (by omega) (by omega) (by omega) (by rw [e]; exact hs)).1
  rw [hp, hq, hr] at g1
  rw [g1, e] at g2
  exact g2
theorem iShG (w : World) (p q r : Int) (s x : Nat) (h : Tri p q r) (hs : s < 2 ^ (p * q * r).toNat) (hx : (x : Int) < p * q * r) :
    Calls Tryd.prog 56 #[tV p q r, .int .u64 s, .int .i64 x] w fun e w' => e = .returned (.int .u64 (shG p q r s x : Nat)) ∧ Below w.heap.size w w' := iShiftN w p q r s x h hs hx
theorem tri_pow {p q r : Int} (h : Tri p q r) {s : Nat} (hs : s < 2 ^ (p * q * r).toNat) : s < 2 ^ 24 :=
  Nat.lt_of_lt_of_le hs (Nat.pow_le_pow_right (by decide) (by have := h.pqr2; omega))
theorem tri_elt {p q r : Int} (h : Tri p q r) {s x : Nat} (hs : s < 2 ^ (p * q * r).toNat) (hx : s.testBit x = true) : (x : Int) < p * q * r := by
  have h1 := h.pqr1
  have : x < (p * q * r).toNat := by
    rcases Nat.lt_or_ge x (p * q * r).toNat with h2 | h2
    · exact h2
    · rw [bit_no hs x h2] at hx; cases hx
  omega
theorem orU (a b : Nat) (ha : a < 16777216) (hb : b < 16777216) : bits .or .u64 (a : Int) (b : Int) = ((a ||| b : Nat) : Int) := bits_or_u64_nat a b (by omega) (by omega)
set_option maxHeartbeats 4000000 in
theorem iSum (w : World) (p q r : Int) (s t : Nat) (h : Tri p q r) (hs : s < 2 ^ (p * q * r).toNat) (ht2 : t < 2 ^ (p * q * r).toNat) (B : Nat) (hB0 : B ≤ w.heap.size) (ht : TabZ B w) :
    Calls Tryd.prog 38 #[tV p q r, .int .u64 s, .int .u64 t] w fun e w' => e = .returned (.int .u64 (orG (fun x => shG p q r t x) (bitsN s) : Nat)) ∧ Below w.heap.size w w' := by
  have HG0 : Hid (∀ x : Nat, (x : Int) < p * q * r → shG p q r t x < 2 ^ (p * q * r).toNat) := Lib.hid (fun x hx => shG_lt h ht2 hx)
  obtain ⟨G, HGG⟩ : ∃ G, Hid ((fun x => shG p q r t x) = G) := ⟨_, Lib.hid rfl⟩
  have HGV : Hid (∀ x : Nat, shG p q r t x = G x) := Lib.hid (fun x => by rw [← HGG.out])
  rw [HGG.out]
  refine (callsIn_wide (n := 4)).1 ?_
  refine callsIn_of_wp_marks Tryd.func38 rfl trivial ?_ rfl
  simp only [Tryd.ntmps38, List.size_toArray, List.length_cons, List.length_nil, Nat.reduceAdd, Nat.reduceSub, Array.replicate_succ, Array.replicate_zero, List.push_toArray, List.append_toArray, List.nil_append, List.cons_append]
  have HT := Lib.hid h
  have HSN := Lib.hid hs
  have HS := Lib.hid (tri_pow h hs)
  have HTS := Lib.hid ht2
  have B2 : Below w.heap.size w (((w.alloc (.cells #[.int .i64 p, .int .i64 q, .int .i64 r] 45)).alloc (.cells #[.int .u64 t] 47)).alloc (.cells #[.int .u64 0] 47)) := Joins.below_alloc3 w _ _ _
  have L1 : (((w.alloc (.cells #[.int .i64 p, .int .i64 q, .int .i64 r] 45)).alloc (.cells #[.int .u64 t] 47)).alloc (.cells #[.int .u64 0] 47)).heap[w.heap.size]? = some (.cells #[.int .i64 p, .int .i64 q, .int .i64 r] 45 (0, 0)) := keepH (Joins.below_alloc2 _ (.cells #[.int .u64 t] 47) (.cells #[.int .u64 0] 47)) (by simp) (heap_alloc_new w (.cells #[.int .i64 p, .int .i64 q, .int .i64 r] 45))
  have L3 : (((w.alloc (.cells #[.int .i64 p, .int .i64 q, .int .i64 r] 45)).alloc (.cells #[.int .u64 t] 47)).alloc (.cells #[.int .u64 0] 47)).heap[w.heap.size + 1]? = some (.cells #[.int .u64 t] 47 (0, 0)) := keepH (Joins.below_alloc1 _ (.cells #[.int .u64 0] 47)) (by simp) (by simpa using heap_alloc_new (w.alloc (.cells #[.int .i64 p, .int .i64 q, .int .i64 r] 45)) (.cells #[.int .u64 t] 47))
  have L2 : (((w.alloc (.cells #[.int .i64 p, .int .i64 q, .int .i64 r] 45)).alloc (.cells #[.int .u64 t] 47)).alloc (.cells #[.int .u64 0] 47)).heap[w.heap.size + 2]? = some (.cells #[.int .u64 0] 47 (0, 0)) := by simpa using heap_alloc_new ((w.alloc (.cells #[.int .i64 p, .int .i64 q, .int .i64 r] 45)).alloc (.cells #[.int .u64 t] 47)) (.cells #[.int .u64 0] 47)
  have HL1 := Lib.hid L1
  have HL2 := Lib.hid L2
  have HL3 := Lib.hid L3
  clear L1 L2 L3 h hs ht2
  gi_wp2
  refine each_loopP s HS.out rfl B
    (fun pre W => (W.heap[w.heap.size + 2]? = some (.cells #[.int .u64 (orG G pre : Nat)] 47 (0, 0)) ∧ W.heap[w.heap.size]? = some (.cells #[.int .i64 p, .int .i64 q, .int .i64 r] 45 (0, 0)) ∧ W.heap[w.heap.size + 1]? = some (.cells #[.int .u64 t] 47 (0, 0))) ∧ Below w.heap.size w W)
    (OwnFrom.and (Own.from (fun s W W' row hs hg hr => ⟨cells_own (w.heap.size + 2) (fun pre => #[.int .u64 (orG G pre : Nat)]) 47 s W W' row hs.1 hg hr, cells_own (β := List Nat) w.heap.size (fun _ => #[.int .i64 p, .int .i64 q, .int .i64 r]) 45 s W W' row hs.2.1 hg hr, cells_own (β := List Nat) (w.heap.size + 1) (fun _ => #[.int .u64 t]) 47 s W W' row hs.2.2 hg hr⟩) _) (ownFrom_below (Nat.le_refl _) (by simp; omega)))
    (fun pre W h => ht.on (h.2.mono hB0))
    ⟨⟨HL2.out, HL1.out, HL3.out⟩, B2⟩
    (fun y => { tmps := #[tV p q r, .int .u64 s, .int .u64 t, .pointer (some ⟨w.heap.size, 0, none⟩), undef, .pointer (some ⟨w.heap.size + 1, 0, none⟩), .int .u64 0, .pointer (some ⟨w.heap.size + 2, 0, none⟩), .int .i64 (y : Nat),
      .int .u64 s, .func (.func 48) #[.int .u64 s] #[], .int .i64 (y : Nat), undef, undef, undef, undef, undef, undef, undef], defers := [] }) ?assign ?body ?done
  case assign =>
    intro l y W K hK
    gi_wp2
    exact hK
  case body =>
    rintro l pre y W hpin hbt hpl ⟨⟨b1, b2, b3⟩, hB⟩
    have HB1 := Lib.hid b1
    have HB2 := Lib.hid b2
    have HB3 := Lib.hid b3
    have HBW := Lib.hid hB
    have c1 : W.cell? ⟨w.heap.size + 2, 0, none⟩ = some (.int .u64 (orG G pre : Nat)) := by simp [World.cell?, b1]
    have f1 : W.frozen? ⟨w.heap.size + 2, 0, none⟩ = false := by simp [World.frozen?, b1]
    obtain ⟨d0, d1, d2, _, _, _⟩ := trip_cell b2
    have e0 : W.cell? ⟨w.heap.size + 1, 0, none⟩ = some (.int .u64 t) := by simp [World.cell?, b3]
    clear b1 b2 b3 hB
    have HYN := Lib.hid (tri_elt HT.out HSN.out hbt)
    have hOl : orG G pre < 2 ^ (p * q * r).toNat := orG_lt _ _ _ (fun x hx => by rw [← HGV.out]; exact HG0.out x (tri_elt HT.out HSN.out (hpin x hx)))
    have hVl := HG0.out y HYN.out
    obtain ⟨O, HOO⟩ : ∃ O, Hid (orG G pre = O) := ⟨_, Lib.hid rfl⟩
    obtain ⟨V, HV⟩ : ∃ V, Hid (G y = V) := ⟨_, Lib.hid rfl⟩
    rw [HOO.out] at c1 hOl
    rw [HGV.out, HV.out] at hVl
    have HOR := Lib.hid (orU O V (lt24 (tri_pow HT.out hOl)) (lt24 (tri_pow HT.out hVl)))
    have HSH : Hid (shG p q r t y = V) := Lib.hid (by rw [HGV.out, HV.out])
    clear hOl hVl
    gi_wp2
    refine region_round (S := (fun W' => W'.cell? ⟨w.heap.size, 0, none⟩ = some (.int .i64 p) ∧ W'.cell? ⟨w.heap.size, 1, none⟩ = some (.int .i64 q) ∧ W'.cell? ⟨w.heap.size, 2, none⟩ = some (.int .i64 r) ∧ W'.cell? ⟨w.heap.size + 1, 0, none⟩ = some (.int .u64 t)))
      (by kernel_rfl) (no_defer (by kernel_rfl)) (fun ⟨a', w', h'⟩ => by have h3 := And.left (a := Exit.outgrown = Exit.normal) h'; cases h3) ⟨d0, d1, d2, e0⟩ (fun hHeld => ?_)
    refine wpAnyH_take (i := 1) (oi := _) (v := (tV p q r)) rfl (by kernel_rfl) (by kernel_rfl) (by kernel_rfl) (fun _ _ _ h => h) (Or.inl ⟨by rfl, ?_⟩) (by assumption) ?_
    · intro W' hSw
      obtain ⟨z0, z1, z2, z3⟩ := hSw
      simp only [List.getElem_toArray, List.getElem_cons_succ, List.getElem_cons_zero]
      go_simp
    simp only [Act.put, List.getElem_toArray, List.getElem_cons_succ, List.getElem_cons_zero, List.setIfInBounds_toArray, List.set_cons_zero, List.set_cons_succ]
    refine wpAnyH_take (i := 2) (oi := _) (v := (.int .u64 t)) rfl (by kernel_rfl) (by kernel_rfl) (by kernel_rfl) (fun _ _ _ h => h) (Or.inl ⟨by rfl, ?_⟩) (by assumption) ?_
    · intro W' hSw
      obtain ⟨z0, z1, z2, z3⟩ := hSw
      simp only [List.getElem_toArray, List.getElem_cons_succ, List.getElem_cons_zero]
      go_simp
    simp only [Act.put, List.getElem_toArray, List.getElem_cons_succ, List.getElem_cons_zero, List.setIfInBounds_toArray, List.set_cons_zero, List.set_cons_succ]
    refine wpAnyH_take (i := 3) (oi := _) (v := (.int .i64 (y : Nat))) rfl (by kernel_rfl) (by kernel_rfl) (by kernel_rfl) (fun _ _ _ h => h) (Or.inl ⟨by rfl, ?_⟩) (by assumption) ?_
    · intro W' hSw
      obtain ⟨z0, z1, z2, z3⟩ := hSw
      simp only [List.getElem_toArray, List.getElem_cons_succ, List.getElem_cons_zero]
      go_simp
    simp only [Act.put, List.getElem_toArray, List.getElem_cons_succ, List.getElem_cons_zero, List.setIfInBounds_toArray, List.set_cons_zero, List.set_cons_succ]
    have HS0 := Lib.hid hHeld
    have Z0 : w.heap.size < W.drew.heap.size := by have := HBW.out.size; have := (Array.getElem?_eq_some_iff.1 HB1.out).1; simp at *; omega
    have ZS : w.heap.size + 2 < W.drew.heap.size := by have := (Array.getElem?_eq_some_iff.1 HB1.out).1; simpa using this
    have Z3 : w.heap.size + 1 < W.drew.heap.size := by have := (Array.getElem?_eq_some_iff.1 HB3.out).1; simpa using this
    have c1' : W.drew.cell? ⟨w.heap.size + 2, 0, none⟩ = some (.int .u64 (O : Nat)) := c1 
    have f1' : W.drew.frozen? ⟨w.heap.size + 2, 0, none⟩ = false := f1 
    have HC := Lib.hid c1'
    have HFr := Lib.hid f1'
    clear c1 f1 c1' f1'
    have T2 := Lib.hid (Below.refl W.drew.heap.size W.drew)
    refine wpAnyH_ready (rs := [0, 4]) (by kernel_rfl) (by simp) ?_
    refine AllReadyH.cons (o := _) rfl (fun K hK => ?_) (AllReadyH.cons (o := _) rfl (fun K hK => ?_) (AllReadyH.nil))
    · simp only [List.getElem_toArray, List.getElem_cons_zero]
      have cc := keepC T2.out ZS HC.out
      go_simp
      clear cc
      refine hK.out _ _ (by obtain ⟨z0, z1, z2, z3⟩ := HS0.out; exact ⟨keepC T2.out Z0 z0, keepC T2.out Z0 z1, keepC T2.out Z0 z2, keepC T2.out Z3 z3⟩) (fun hHeld => ?_)
      clear hK K
      try simp only [Act.put, List.getElem_toArray, List.getElem_cons_zero, List.setIfInBounds_toArray, List.set_cons_zero, List.set_cons_succ]
      refine wpAnyH_ready (rs := [4]) (by kernel_rfl) (by simp) ?_
      refine AllReadyH.cons (o := _) rfl (fun K hK => ?_) (AllReadyH.nil)
      simp only [List.getElem_toArray, List.getElem_cons_succ, List.getElem_cons_zero]
      go_simp
      refine (iShG _ p q r t y HT.out HTS.out HYN.out).mono ?_
      rw [HSH.out]
      rintro e w3 ⟨rfl, hb3⟩
      have T3 := Lib.hid (T2.out.trans (hb3.mono T2.out.size))
      refine hK.out _ _ (by obtain ⟨z0, z1, z2, z3⟩ := HS0.out; exact ⟨keepC T3.out Z0 z0, keepC T3.out Z0 z1, keepC T3.out Z0 z2, keepC T3.out Z3 z3⟩) (fun hHeld => ?_)
      clear hK K
      try simp only [Act.put, List.getElem_toArray, List.getElem_cons_succ, List.getElem_cons_zero, List.setIfInBounds_toArray, List.set_cons_zero, List.set_cons_succ]
      refine wpAnyH_ready (rs := [5]) (by kernel_rfl) (by simp) ?_
      refine AllReadyH.cons (o := _) rfl (fun K hK => ?_) (AllReadyH.nil)
      simp only [List.getElem_toArray, List.getElem_cons_succ, List.getElem_cons_zero]
      have hor := HOR.out
      go_simp
      clear hor
      refine hK.out _ _ (by obtain ⟨z0, z1, z2, z3⟩ := HS0.out; exact ⟨keepC T3.out Z0 z0, keepC T3.out Z0 z1, keepC T3.out Z0 z2, keepC T3.out Z3 z3⟩) (fun hHeld => ?_)
      clear hK K
      try simp only [Act.put, List.getElem_toArray, List.getElem_cons_succ, List.getElem_cons_zero, List.setIfInBounds_toArray, List.set_cons_zero, List.set_cons_succ]
      refine wpAnyH_ready (rs := [6]) (by kernel_rfl) (by simp) ?_
      refine AllReadyH.cons (o := _) rfl (fun K hK => ?_) (AllReadyH.nil)
      simp only [List.getElem_toArray, List.getElem_cons_succ, List.getElem_cons_zero]
      have cc := keepC T3.out ZS HC.out
      have ff := keepF T3.out ZS HFr.out
      go_simp
      clear cc ff
      refine hK.out _ _ (by obtain ⟨z0, z1, z2, z3⟩ := HS0.out; exact ⟨(World.cell?_setCell_far _ _ _ _ (by simp)).trans (keepC T3.out Z0 z0), (World.cell?_setCell_far _ _ _ _ (by simp)).trans (keepC T3.out Z0 z1), (World.cell?_setCell_far _ _ _ _ (by simp)).trans (keepC T3.out Z0 z2), (World.cell?_setCell_far _ _ _ _ (by simp)).trans (keepC T3.out Z3 z3)⟩) (fun hHeld => ?_)
      clear hK K
      try simp only [Act.put, List.getElem_toArray, List.getElem_cons_succ, List.getElem_cons_zero, List.setIfInBounds_toArray, List.set_cons_zero, List.set_cons_succ]
      refine wpAnyH_done (by kernel_rfl) ?_ _
      have hk := keepH T3.out ZS HB1.out
      have hk0 := keepH T3.out Z0 HB2.out
      have hk3 := keepH T3.out Z3 HB3.out
      exact ⟨rfl, (keeps_below (W := W) T3.out).trans (KeepsOthers.setCell _ _ _), ⟨by rw [orG_snoc, HV.out, HOO.out]; exact Boxed.set _ hk, (grownBy_setCell' _ _ _).block _ (Array.getElem?_eq_some_iff.1 hk0).1 (by simp) |>.trans hk0, (grownBy_setCell' _ _ _).block _ (Array.getElem?_eq_some_iff.1 hk3).1 (by simp) |>.trans hk3⟩, (HBW.out.drew.trans (T3.out.mono HBW.out.size)).setCell (p := ⟨w.heap.size + 2, 0, none⟩) (by simp) _⟩
    · simp only [List.getElem_toArray, List.getElem_cons_succ, List.getElem_cons_zero]
      go_simp
      refine (iShG _ p q r t y HT.out HTS.out HYN.out).mono ?_
      rw [HSH.out]
      rintro e w3 ⟨rfl, hb3⟩
      have T3 := Lib.hid (T2.out.trans (hb3.mono T2.out.size))
      refine hK.out _ _ (by obtain ⟨z0, z1, z2, z3⟩ := HS0.out; exact ⟨keepC T3.out Z0 z0, keepC T3.out Z0 z1, keepC T3.out Z0 z2, keepC T3.out Z3 z3⟩) (fun hHeld => ?_)
      clear hK K
      try simp only [Act.put, List.getElem_toArray, List.getElem_cons_succ, List.getElem_cons_zero, List.setIfInBounds_toArray, List.set_cons_zero, List.set_cons_succ]
      refine wpAnyH_ready (rs := [0]) (by kernel_rfl) (by simp) ?_
      refine AllReadyH.cons (o := _) rfl (fun K hK => ?_) (AllReadyH.nil)
      simp only [List.getElem_toArray, List.getElem_cons_zero]
      have cc := keepC T3.out ZS HC.out
      go_simp
      clear cc
      refine hK.out _ _ (by obtain ⟨z0, z1, z2, z3⟩ := HS0.out; exact ⟨keepC T3.out Z0 z0, keepC T3.out Z0 z1, keepC T3.out Z0 z2, keepC T3.out Z3 z3⟩) (fun hHeld => ?_)
      clear hK K
      try simp only [Act.put, List.getElem_toArray, List.getElem_cons_zero, List.setIfInBounds_toArray, List.set_cons_zero, List.set_cons_succ]
      refine wpAnyH_ready (rs := [5]) (by kernel_rfl) (by simp) ?_
      refine AllReadyH.cons (o := _) rfl (fun K hK => ?_) (AllReadyH.nil)
      simp only [List.getElem_toArray, List.getElem_cons_succ, List.getElem_cons_zero]
      have hor := HOR.out
      go_simp
      clear hor
      refine hK.out _ _ (by obtain ⟨z0, z1, z2, z3⟩ := HS0.out; exact ⟨keepC T3.out Z0 z0, keepC T3.out Z0 z1, keepC T3.out Z0 z2, keepC T3.out Z3 z3⟩) (fun hHeld => ?_)
      clear hK K
      try simp only [Act.put, List.getElem_toArray, List.getElem_cons_succ, List.getElem_cons_zero, List.setIfInBounds_toArray, List.set_cons_zero, List.set_cons_succ]
      refine wpAnyH_ready (rs := [6]) (by kernel_rfl) (by simp) ?_
      refine AllReadyH.cons (o := _) rfl (fun K hK => ?_) (AllReadyH.nil)
      simp only [List.getElem_toArray, List.getElem_cons_succ, List.getElem_cons_zero]
      have cc := keepC T3.out ZS HC.out
      have ff := keepF T3.out ZS HFr.out
      go_simp
      clear cc ff
      refine hK.out _ _ (by obtain ⟨z0, z1, z2, z3⟩ := HS0.out; exact ⟨(World.cell?_setCell_far _ _ _ _ (by simp)).trans (keepC T3.out Z0 z0), (World.cell?_setCell_far _ _ _ _ (by simp)).trans (keepC T3.out Z0 z1), (World.cell?_setCell_far _ _ _ _ (by simp)).trans (keepC T3.out Z0 z2), (World.cell?_setCell_far _ _ _ _ (by simp)).trans (keepC T3.out Z3 z3)⟩) (fun hHeld => ?_)
      clear hK K
      try simp only [Act.put, List.getElem_toArray, List.getElem_cons_succ, List.getElem_cons_zero, List.setIfInBounds_toArray, List.set_cons_zero, List.set_cons_succ]
      refine wpAnyH_done (by kernel_rfl) ?_ _
      have hk := keepH T3.out ZS HB1.out
      have hk0 := keepH T3.out Z0 HB2.out
      have hk3 := keepH T3.out Z3 HB3.out
      exact ⟨rfl, (keeps_below (W := W) T3.out).trans (KeepsOthers.setCell _ _ _), ⟨by rw [orG_snoc, HV.out, HOO.out]; exact Boxed.set _ hk, (grownBy_setCell' _ _ _).block _ (Array.getElem?_eq_some_iff.1 hk0).1 (by simp) |>.trans hk0, (grownBy_setCell' _ _ _).block _ (Array.getElem?_eq_some_iff.1 hk3).1 (by simp) |>.trans hk3⟩, (HBW.out.drew.trans (T3.out.mono HBW.out.size)).setCell (p := ⟨w.heap.size + 2, 0, none⟩) (by simp) _⟩
  case done =>
    rintro D W hD ⟨⟨b1, b2, b3⟩, hB⟩ hK
    have c1 : W.cell? ⟨w.heap.size + 2, 0, none⟩ = some (.int .u64 (orG G (bitsN s) : Nat)) := by simp [World.cell?, b1]
    gi_wp2
    refine ⟨by simp, .inl ⟨_, _, rfl, run_takeDeferred hK, ?_⟩⟩
    exact ⟨_, results_tmp rfl _ _ _, rfl, hB.trans (belowK_b (w := w) (Nat.le_refl _) W D _ _ (by simp at hD; omega) hK rfl rfl)⟩
end Go.Proofs.YtfkleihnafeoeaaDoor

namespace Go.Proofs.YtfkleihnafeoeaaDoor
open Go.RowKit Go.Shelf
attribute [local go_sem] Oper.semAt_some
set_option maxRecDepth 1000000
/-- The multiple of an element, by its three places. -/
def dilF (p q r k : Int) (y : Nat) : Int := (y : Int) % p * k % p + p * ((y : Int) / p % q * k % q) + p * q * ((y : Int) / p / q % r * k % r)
theorem dilF_bnd {p q r k : Int} (h : Tri p q r) (y : Nat) : 0 ≤ dilF p q r k y ∧ dilF p q r k y ≤ 23 := by
  have a := emod_b (a := (y : Int) % p * k) h.p1
  have b := emod_b (a := (y : Int) / p % q * k) h.q1
  have c := emod_b (a := (y : Int) / p / q % r * k) h.r1
  have h3 := h.pqr2
  have hp := h.p1
  have hq := h.q1
  have hpq := h.pq1
  unfold dilF
  generalize (y : Int) % p * k % p = A at *
  generalize (y : Int) / p % q * k % q = B at *
  generalize (y : Int) / p / q % r * k % r = C at *
  have m1 : 0 ≤ p * B := Int.mul_nonneg (by omega) b.1
  have m2 : p * B ≤ p * (q - 1) := Int.mul_le_mul_of_nonneg_left (by omega) (by omega)
  have m3 : 0 ≤ p * q * C := Int.mul_nonneg (by omega) c.1
  have m4 : p * q * C ≤ p * q * (r - 1) := Int.mul_le_mul_of_nonneg_left (by omega) (by omega)
  rw [Int.mul_sub, Int.mul_one] at m2 m4
  omega
theorem orF_dil_lt {p q r k : Int} (h : Tri p q r) (L : List Nat) : orF (dilF p q r k) L < 16777216 :=
  orF_lt _ _ 24 (fun x _ => by have := dilF_bnd (k := k) h x; omega)
end Go.Proofs.YtfkleihnafeoeaaDoor

namespace Go.Proofs.YtfkleihnafeoeaaDoor
open Go.RowKit
set_option maxRecDepth 1000000
theorem sh_tri {l : List Int} (h : grpB l = true) (x : Int) (L : List Nat) :
    orF (fun y => addN l (y : Int) x) L = orF (shF (l.getD 0 1) (l.getD 1 1) (l.getD 2 1) (x % l.getD 0 1) (x / l.getD 0 1 % l.getD 1 1) (x / l.getD 0 1 / l.getD 1 1 % l.getD 2 1)) L :=
  orF_congr _ _ L (fun y _ => by
    have := (tri_grp h).p1
    rw [add_tri (grpB_true h).1 (y : Int) x (by omega)]; rfl)
end Go.Proofs.YtfkleihnafeoeaaDoor

namespace Go.Proofs.YtfkleihnafeoeaaDoor
open Go.RowKit
set_option maxRecDepth 1000000
theorem dl_tri {l : List Int} (h : grpB l = true) (k : Int) (L : List Nat) :
    orF (fun y => mulN l (y : Int) k) L = orF (dilF (l.getD 0 1) (l.getD 1 1) (l.getD 2 1) k) L :=
  orF_congr _ _ L (fun y _ => by
    have := (tri_grp h).p1
    rw [mul_tri (grpB_true h).1 (y : Int) k (by omega)]; rfl)
end Go.Proofs.YtfkleihnafeoeaaDoor

namespace Go.Proofs.YtfkleihnafeoeaaDoor
open Go.RowKit
set_option maxRecDepth 1000000
/-- What setsIn answers. -/
def SetsInPost (l : List Int) (s t : Int) (w : World) (e : Ending) (w' : World) : Prop :=
  ∃ p q r u v, e = .returned (.tuple #[tV p q r, .int .u64 u, .int .u64 v, .bool (two l s t)]) ∧ (two l s t = true → p = l.getD 0 1 ∧ q = l.getD 1 1 ∧ r = l.getD 2 1 ∧ u = s ∧ v = t) ∧ Below w.heap.size w w'
end Go.Proofs.YtfkleihnafeoeaaDoor

namespace Go.Proofs.YtfkleihnafeoeaaDoor
open Go.RowKit
set_option maxRecDepth 1000000
theorem below_set3k {B b : Nat} {w0 w : World} {x y z : Value} (h : Below B w0 w) (hb : B ≤ b) : Below B w0 (((w.setCell ⟨b, 0, none⟩ x).setCell ⟨b, 1, none⟩ y).setCell ⟨b, 2, none⟩ z) := below_set3 h hb
/-- Whether s is a set that is not empty. -/
def fullB (l : List Int) (s : Int) : Bool := isS l s && !(s == 0)
theorem neB_full (l : List Int) (s t : Int) : neB l s t = (fullB l s && fullB l t) := by
  unfold neB two fullB
  cases isS l s <;> cases isS l t <;> cases (s == 0) <;> cases (t == 0) <;> rfl
set_option maxHeartbeats 2000000 in
theorem iFS_no (w : World) (a : Option Addr) (l : List Int) (n cap : Nat) (s : Int) (nm : ByteArray) (hn : n = l.length) (hm : n ≤ 9223372036854775807) (hi : Ints w a l) (hs : fullB l s = false) :
    Calls Tryd.prog 51 #[.agg #[.slice a n cap], .int .i64 s, .string nm] w fun e w' => ∃ x y, e = .returned (.tuple #[tV 0 0 0, .int .u64 0, .iface 71 (.agg #[.string (x), .string (y)])]) ∧ Below w.heap.size w w' := by
  have HI := Lib.hid (ints_alloc (ints_alloc hi (.cells #[.slice a n cap] 27)) (.cells #[.int .i64 0, .int .i64 0, .int .i64 0] 45))
  have HN := Lib.hid hn
  have C1 := keepC (Joins.below_alloc1 _ (.cells #[.int .i64 0, .int .i64 0, .int .i64 0] 45)) (by simp <;> omega) (newC w (.slice a n cap) 27 (n := w.heap.size) rfl)
  have HB := Lib.hid (Joins.below_alloc2 w (.cells #[.slice a n cap] 27) (.cells #[.int .i64 0, .int .i64 0, .int .i64 0] 45))
  have R1 : Hid (((w.alloc (.cells #[.slice a n cap] 27)).alloc (.cells #[.int .i64 0, .int .i64 0, .int .i64 0] 45)).heap[w.heap.size + 1]? = some (.cells #[.int .i64 0, .int .i64 0, .int .i64 0] 45 (0, 0))) := Lib.hid (by simpa using heap_alloc_new (w.alloc (.cells #[.slice a n cap] 27)) (.cells #[.int .i64 0, .int .i64 0, .int .i64 0] 45))
  have T0 := Lib.hid (Below.refl ((w.alloc (.cells #[.slice a n cap] 27)).alloc (.cells #[.int .i64 0, .int .i64 0, .int .i64 0] 45)).heap.size ((w.alloc (.cells #[.slice a n cap] 27)).alloc (.cells #[.int .i64 0, .int .i64 0, .int .i64 0] 45)))
  clear hi hn
  obtain ⟨p, EP⟩ : ∃ p, Hid (l.getD 0 1 = p) := ⟨_, Lib.hid rfl⟩
  obtain ⟨q, EQ⟩ : ∃ q, Hid (l.getD 1 1 = q) := ⟨_, Lib.hid rfl⟩
  obtain ⟨r, ER⟩ : ∃ r, Hid (l.getD 2 1 = r) := ⟨_, Lib.hid rfl⟩
  cases h1 : isS l s with
  | false =>
    have HS := Lib.hid h1
    clear hs h1
    go_enter Tryd.func51, Tryd.ntmps51
    go_wp2_with (first | (go_at_call 29; refine (iSetIn_no _ _ _ _ _ _ HN.out hm (HI.out.below rfl T0.out) HS.out).mono ?_; rintro e w1 ⟨rfl, hb1⟩; have S1 := Lib.hid (T0.out.trans (hb1.mono T0.out.size)); have T1 := Lib.hid (S1.out.alloc S1.out.size (.cells #[.int .i64 0, .int .i64 0, .int .i64 0] 45)); have cs1 := keepC S1.out (by simp <;> omega) C1; have c1 := keepC T1.out (by simp <;> omega) C1; have R7 := Lib.hid (heap_alloc_new w1 (.cells #[.int .i64 0, .int .i64 0, .int .i64 0] 45)); obtain ⟨x10, x11, x12, x1f0, x1f1, x1f2⟩ := trip_cell (keepH T1.out (by simp <;> omega) R1.out); obtain ⟨z0, z1, z2, zf0, zf1, zf2⟩ := trip_cell R7.out))
    refine bodyPost_ret (v := .tuple #[tV 0 0 0, .int .u64 0, .iface 71 (.agg #[.string (nm), .string (ByteArray.mk #[110, 111, 110, 101, 32, 111, 102, 32, 116, 104, 101, 32, 103, 114, 111, 117, 112])])]) (by simp [results, Tryd.results51, go_sem, x10, x11, x12]) rfl ⟨_, _, rfl, below_set3 (HB.out.trans (T1.out.mono (by simp <;> omega))) (by omega)⟩
  | true =>
    have HS := Lib.hid h1
    have h0 : s = 0 := by
      unfold fullB at hs
      rw [h1] at hs
      simpa using hs
    subst h0
    clear hs h1
    go_enter Tryd.func51, Tryd.ntmps51
    go_wp2_with (first | (go_at_call 29; refine (iSetIn_yes _ _ _ _ _ _ HN.out hm (HI.out.below rfl T0.out) HS.out).mono ?_; rw [EP.out, EQ.out, ER.out]; rintro e w1 ⟨rfl, hb1⟩; have S1 := Lib.hid (T0.out.trans (hb1.mono T0.out.size)); have T1 := Lib.hid (S1.out.alloc S1.out.size (.cells #[.int .i64 p, .int .i64 q, .int .i64 r] 45)); have cs1 := keepC S1.out (by simp <;> omega) C1; have c1 := keepC T1.out (by simp <;> omega) C1; have R7 := Lib.hid (heap_alloc_new w1 (.cells #[.int .i64 p, .int .i64 q, .int .i64 r] 45)); obtain ⟨x10, x11, x12, x1f0, x1f1, x1f2⟩ := trip_cell (keepH T1.out (by simp <;> omega) R1.out); obtain ⟨z0, z1, z2, zf0, zf1, zf2⟩ := trip_cell R7.out))
    refine bodyPost_ret (v := .tuple #[tV 0 0 0, .int .u64 0, .iface 71 (.agg #[.string (nm), .string (ByteArray.mk #[101, 109, 112, 116, 121])])]) (by simp [results, Tryd.results51, go_sem, x10, x11, x12]) rfl ⟨_, _, rfl, below_set3 (HB.out.trans (T1.out.mono (by simp <;> omega))) (by omega)⟩
set_option maxHeartbeats 2000000 in
theorem iFS_yes (w : World) (a : Option Addr) (l : List Int) (n cap : Nat) (s : Int) (nm : ByteArray) (hn : n = l.length) (hm : n ≤ 9223372036854775807) (hi : Ints w a l) (hs : fullB l s = true) :
    Calls Tryd.prog 51 #[.agg #[.slice a n cap], .int .i64 s, .string nm] w fun e w' => e = .returned (.tuple #[tV (l.getD 0 1) (l.getD 1 1) (l.getD 2 1), .int .u64 s, .nilIface]) ∧ Below w.heap.size w w' := by
  have HI := Lib.hid (ints_alloc (ints_alloc hi (.cells #[.slice a n cap] 27)) (.cells #[.int .i64 0, .int .i64 0, .int .i64 0] 45))
  have HN := Lib.hid hn
  have C1 := keepC (Joins.below_alloc1 _ (.cells #[.int .i64 0, .int .i64 0, .int .i64 0] 45)) (by simp <;> omega) (newC w (.slice a n cap) 27 (n := w.heap.size) rfl)
  have HB := Lib.hid (Joins.below_alloc2 w (.cells #[.slice a n cap] 27) (.cells #[.int .i64 0, .int .i64 0, .int .i64 0] 45))
  have R1 : Hid (((w.alloc (.cells #[.slice a n cap] 27)).alloc (.cells #[.int .i64 0, .int .i64 0, .int .i64 0] 45)).heap[w.heap.size + 1]? = some (.cells #[.int .i64 0, .int .i64 0, .int .i64 0] 45 (0, 0))) := Lib.hid (by simpa using heap_alloc_new (w.alloc (.cells #[.slice a n cap] 27)) (.cells #[.int .i64 0, .int .i64 0, .int .i64 0] 45))
  have T0 := Lib.hid (Below.refl ((w.alloc (.cells #[.slice a n cap] 27)).alloc (.cells #[.int .i64 0, .int .i64 0, .int .i64 0] 45)).heap.size ((w.alloc (.cells #[.slice a n cap] 27)).alloc (.cells #[.int .i64 0, .int .i64 0, .int .i64 0] 45)))
  clear hi hn
  obtain ⟨p, EP⟩ : ∃ p, Hid (l.getD 0 1 = p) := ⟨_, Lib.hid rfl⟩
  obtain ⟨q, EQ⟩ : ∃ q, Hid (l.getD 1 1 = q) := ⟨_, Lib.hid rfl⟩
  obtain ⟨r, ER⟩ : ∃ r, Hid (l.getD 2 1 = r) := ⟨_, Lib.hid rfl⟩
  have hs2 : isS l s = true ∧ (s == 0) = false := by
    unfold fullB at hs
    simpa using hs
  have HS := Lib.hid hs2.1
  have h0 : (s == 0) = false := hs2.2
  rw [EP.out, EQ.out, ER.out]
  clear hs hs2
  go_enter Tryd.func51, Tryd.ntmps51
  go_wp2_with (first | (go_at_call 29; refine (iSetIn_yes _ _ _ _ _ _ HN.out hm (HI.out.below rfl T0.out) HS.out).mono ?_; rw [EP.out, EQ.out, ER.out]; rintro e w1 ⟨rfl, hb1⟩; have S1 := Lib.hid (T0.out.trans (hb1.mono T0.out.size)); have T1 := Lib.hid (S1.out.alloc S1.out.size (.cells #[.int .i64 p, .int .i64 q, .int .i64 r] 45)); have cs1 := keepC S1.out (by simp <;> omega) C1; have c1 := keepC T1.out (by simp <;> omega) C1; have R7 := Lib.hid (heap_alloc_new w1 (.cells #[.int .i64 p, .int .i64 q, .int .i64 r] 45)); obtain ⟨x10, x11, x12, x1f0, x1f1, x1f2⟩ := trip_cell (keepH T1.out (by simp <;> omega) R1.out); obtain ⟨z0, z1, z2, zf0, zf1, zf2⟩ := trip_cell R7.out))
  refine bodyPost_ret (v := .tuple #[tV p q r, .int .u64 s, .nilIface]) (by simp [results, Tryd.results51, go_sem, x10, x11, x12]) rfl ⟨rfl, below_set3 (HB.out.trans (T1.out.mono (by simp <;> omega))) (by omega)⟩
set_option maxHeartbeats 4000000 in
theorem iFSS_no (w : World) (a : Option Addr) (l : List Int) (n cap : Nat) (s t : Int) (hn : n = l.length) (hm : n ≤ 9223372036854775807) (hi : Ints w a l) (hs : neB l s t = false) :
    Calls Tryd.prog 34 #[.agg #[.slice a n cap], .int .i64 s, .int .i64 t] w fun e w' => ∃ x y, e = .returned (.tuple #[tV 0 0 0, .int .u64 0, .int .u64 0, .iface 71 (.agg #[.string (x), .string (y)])]) ∧ Below w.heap.size w w' := by
  have HI := Lib.hid (ints_alloc (ints_alloc hi (.cells #[.slice a n cap] 27)) (.cells #[.int .i64 0, .int .i64 0, .int .i64 0] 45))
  have HN := Lib.hid hn
  have C1 := keepC (Joins.below_alloc1 _ (.cells #[.int .i64 0, .int .i64 0, .int .i64 0] 45)) (by simp <;> omega) (newC w (.slice a n cap) 27 (n := w.heap.size) rfl)
  have HB := Lib.hid (Joins.below_alloc2 w (.cells #[.slice a n cap] 27) (.cells #[.int .i64 0, .int .i64 0, .int .i64 0] 45))
  have R1 : Hid (((w.alloc (.cells #[.slice a n cap] 27)).alloc (.cells #[.int .i64 0, .int .i64 0, .int .i64 0] 45)).heap[w.heap.size + 1]? = some (.cells #[.int .i64 0, .int .i64 0, .int .i64 0] 45 (0, 0))) := Lib.hid (by simpa using heap_alloc_new (w.alloc (.cells #[.slice a n cap] 27)) (.cells #[.int .i64 0, .int .i64 0, .int .i64 0] 45))
  have T0 := Lib.hid (Below.refl ((w.alloc (.cells #[.slice a n cap] 27)).alloc (.cells #[.int .i64 0, .int .i64 0, .int .i64 0] 45)).heap.size ((w.alloc (.cells #[.slice a n cap] 27)).alloc (.cells #[.int .i64 0, .int .i64 0, .int .i64 0] 45)))
  clear hi hn
  obtain ⟨p, EP⟩ : ∃ p, Hid (l.getD 0 1 = p) := ⟨_, Lib.hid rfl⟩
  obtain ⟨q, EQ⟩ : ∃ q, Hid (l.getD 1 1 = q) := ⟨_, Lib.hid rfl⟩
  obtain ⟨r, ER⟩ : ∃ r, Hid (l.getD 2 1 = r) := ⟨_, Lib.hid rfl⟩
  rw [neB_full] at hs
  cases h1 : fullB l s with
  | false =>
    have HS := Lib.hid h1
    clear hs h1
    go_enter Tryd.func34, Tryd.ntmps34
    go_wp2_with (first | (go_at_call 51; refine (iFS_no _ _ _ _ _ _ _ HN.out hm (HI.out.below rfl T0.out) HS.out).mono ?_; rintro e w1 ⟨ex1, ey1, rfl, hb1⟩; have S1 := Lib.hid (T0.out.trans (hb1.mono T0.out.size)); have T1 := Lib.hid (S1.out.alloc S1.out.size (.cells #[.int .i64 0, .int .i64 0, .int .i64 0] 45)); have cs1 := keepC S1.out (by simp <;> omega) C1; have c1 := keepC T1.out (by simp <;> omega) C1; have R7 := Lib.hid (heap_alloc_new w1 (.cells #[.int .i64 0, .int .i64 0, .int .i64 0] 45)); obtain ⟨x10, x11, x12, x1f0, x1f1, x1f2⟩ := trip_cell (keepH T1.out (by simp <;> omega) R1.out); obtain ⟨z0, z1, z2, zf0, zf1, zf2⟩ := trip_cell R7.out))
    refine bodyPost_ret (v := .tuple #[tV 0 0 0, .int .u64 0, .int .u64 0, .iface 71 (.agg #[.string (ex1), .string (ey1)])]) (by simp [results, Tryd.results34, go_sem, x10, x11, x12]) rfl ⟨_, _, rfl, below_set3 (HB.out.trans (T1.out.mono (by simp <;> omega))) (by omega)⟩
  | true =>
    have HS := Lib.hid h1
    rw [h1, Bool.true_and] at hs
    have HS2 := Lib.hid hs
    clear hs h1
    go_enter Tryd.func34, Tryd.ntmps34
    go_wp2_with (first
      | (go_at_call 51; have hx_ := T1; clear hx_; refine (iFS_no _ _ _ _ _ _ _ HN.out hm (HI.out.below rfl T1.out) HS2.out).mono ?_; rintro e w2 ⟨ex2, ey2, rfl, hb2⟩; have S2 := Lib.hid (T1.out.trans (hb2.mono T1.out.size)); have T2 := Lib.hid (S2.out.alloc S2.out.size (.cells #[.int .i64 0, .int .i64 0, .int .i64 0] 45)); have cs2 := keepC S2.out (by simp <;> omega) C1; have c2 := keepC T2.out (by simp <;> omega) C1; have R8 := Lib.hid (heap_alloc_new w2 (.cells #[.int .i64 0, .int .i64 0, .int .i64 0] 45)); obtain ⟨x20, x21, x22, x2f0, x2f1, x2f2⟩ := trip_cell (keepH T2.out (by simp <;> omega) R1.out); obtain ⟨y0, y1, y2, yf0, yf1, yf2⟩ := trip_cell (keepH (hb2.alloc hb2.size (.cells #[.int .i64 0, .int .i64 0, .int .i64 0] 45)) (by simp <;> omega) R7.out))
      | (go_at_call 51; refine (iFS_yes _ _ _ _ _ _ _ HN.out hm (HI.out.below rfl T0.out) HS.out).mono ?_; rw [EP.out, EQ.out, ER.out]; rintro e w1 ⟨rfl, hb1⟩; have S1 := Lib.hid (T0.out.trans (hb1.mono T0.out.size)); have T1 := Lib.hid (S1.out.alloc S1.out.size (.cells #[.int .i64 p, .int .i64 q, .int .i64 r] 45)); have cs1 := keepC S1.out (by simp <;> omega) C1; have c1 := keepC T1.out (by simp <;> omega) C1; have R7 := Lib.hid (heap_alloc_new w1 (.cells #[.int .i64 p, .int .i64 q, .int .i64 r] 45)); obtain ⟨x10, x11, x12, x1f0, x1f1, x1f2⟩ := trip_cell (keepH T1.out (by simp <;> omega) R1.out); obtain ⟨z0, z1, z2, zf0, zf1, zf2⟩ := trip_cell R7.out))
    refine bodyPost_ret (v := .tuple #[tV 0 0 0, .int .u64 0, .int .u64 0, .iface 71 (.agg #[.string (ex2), .string (ey2)])]) (by simp [results, Tryd.results34, go_sem, x20, x21, x22]) rfl ⟨_, _, rfl, below_set3 (HB.out.trans (T2.out.mono (by simp <;> omega))) (by omega)⟩
set_option maxHeartbeats 4000000 in
theorem iFSS_yes (w : World) (a : Option Addr) (l : List Int) (n cap : Nat) (s t : Int) (hn : n = l.length) (hm : n ≤ 9223372036854775807) (hi : Ints w a l) (hs : neB l s t = true) :
    Calls Tryd.prog 34 #[.agg #[.slice a n cap], .int .i64 s, .int .i64 t] w fun e w' => e = .returned (.tuple #[tV (l.getD 0 1) (l.getD 1 1) (l.getD 2 1), .int .u64 s, .int .u64 t, .nilIface]) ∧ Below w.heap.size w w' := by
  have HI := Lib.hid (ints_alloc (ints_alloc hi (.cells #[.slice a n cap] 27)) (.cells #[.int .i64 0, .int .i64 0, .int .i64 0] 45))
  have HN := Lib.hid hn
  have C1 := keepC (Joins.below_alloc1 _ (.cells #[.int .i64 0, .int .i64 0, .int .i64 0] 45)) (by simp <;> omega) (newC w (.slice a n cap) 27 (n := w.heap.size) rfl)
  have HB := Lib.hid (Joins.below_alloc2 w (.cells #[.slice a n cap] 27) (.cells #[.int .i64 0, .int .i64 0, .int .i64 0] 45))
  have R1 : Hid (((w.alloc (.cells #[.slice a n cap] 27)).alloc (.cells #[.int .i64 0, .int .i64 0, .int .i64 0] 45)).heap[w.heap.size + 1]? = some (.cells #[.int .i64 0, .int .i64 0, .int .i64 0] 45 (0, 0))) := Lib.hid (by simpa using heap_alloc_new (w.alloc (.cells #[.slice a n cap] 27)) (.cells #[.int .i64 0, .int .i64 0, .int .i64 0] 45))
  have T0 := Lib.hid (Below.refl ((w.alloc (.cells #[.slice a n cap] 27)).alloc (.cells #[.int .i64 0, .int .i64 0, .int .i64 0] 45)).heap.size ((w.alloc (.cells #[.slice a n cap] 27)).alloc (.cells #[.int .i64 0, .int .i64 0, .int .i64 0] 45)))
  clear hi hn
  obtain ⟨p, EP⟩ : ∃ p, Hid (l.getD 0 1 = p) := ⟨_, Lib.hid rfl⟩
  obtain ⟨q, EQ⟩ : ∃ q, Hid (l.getD 1 1 = q) := ⟨_, Lib.hid rfl⟩
  obtain ⟨r, ER⟩ : ∃ r, Hid (l.getD 2 1 = r) := ⟨_, Lib.hid rfl⟩
  rw [neB_full, Bool.and_eq_true] at hs
  have HS := Lib.hid hs.1
  have HS2 := Lib.hid hs.2
  rw [EP.out, EQ.out, ER.out]
  clear hs
  go_enter Tryd.func34, Tryd.ntmps34
  go_wp2_with (first
    | (go_at_call 51; have hx_ := T1; clear hx_; refine (iFS_yes _ _ _ _ _ _ _ HN.out hm (HI.out.below rfl T1.out) HS2.out).mono ?_; rw [EP.out, EQ.out, ER.out]; rintro e w2 ⟨rfl, hb2⟩; have S2 := Lib.hid (T1.out.trans (hb2.mono T1.out.size)); have T2 := Lib.hid (S2.out.alloc S2.out.size (.cells #[.int .i64 p, .int .i64 q, .int .i64 r] 45)); have cs2 := keepC S2.out (by simp <;> omega) C1; have c2 := keepC T2.out (by simp <;> omega) C1; have R8 := Lib.hid (heap_alloc_new w2 (.cells #[.int .i64 p, .int .i64 q, .int .i64 r] 45)); obtain ⟨x20, x21, x22, x2f0, x2f1, x2f2⟩ := trip_cell (keepH T2.out (by simp <;> omega) R1.out); obtain ⟨y0, y1, y2, yf0, yf1, yf2⟩ := trip_cell (keepH (hb2.alloc hb2.size (.cells #[.int .i64 p, .int .i64 q, .int .i64 r] 45)) (by simp <;> omega) R7.out))
    | (go_at_call 51; refine (iFS_yes _ _ _ _ _ _ _ HN.out hm (HI.out.below rfl T0.out) HS.out).mono ?_; rw [EP.out, EQ.out, ER.out]; rintro e w1 ⟨rfl, hb1⟩; have S1 := Lib.hid (T0.out.trans (hb1.mono T0.out.size)); have T1 := Lib.hid (S1.out.alloc S1.out.size (.cells #[.int .i64 p, .int .i64 q, .int .i64 r] 45)); have cs1 := keepC S1.out (by simp <;> omega) C1; have c1 := keepC T1.out (by simp <;> omega) C1; have R7 := Lib.hid (heap_alloc_new w1 (.cells #[.int .i64 p, .int .i64 q, .int .i64 r] 45)); obtain ⟨x10, x11, x12, x1f0, x1f1, x1f2⟩ := trip_cell (keepH T1.out (by simp <;> omega) R1.out); obtain ⟨z0, z1, z2, zf0, zf1, zf2⟩ := trip_cell R7.out))
  refine bodyPost_ret (v := .tuple #[tV p q r, .int .u64 s, .int .u64 t, .nilIface]) (by simp [results, Tryd.results34, go_sem, x20, x21, x22]) rfl ⟨rfl, below_set3 (HB.out.trans (T2.out.mono (by simp <;> omega))) (by omega)⟩
end Go.Proofs.YtfkleihnafeoeaaDoor

namespace Go.Proofs.YtfkleihnafeoeaaDoor
open Go.RowKit
set_option maxRecDepth 1000000
/-- Both are sets: what is known of them. -/
theorem two_true {l : List Int} {s t : Int} (h : two l s t = true) : grpB l = true ∧ ∃ a b : Nat, s = (a : Int) ∧ t = (b : Int) ∧ a < 2 ^ (prodI l).toNat ∧ b < 2 ^ (prodI l).toNat := by
  unfold two at h
  rw [Bool.and_eq_true] at h
  obtain ⟨hg, a, h1, h2, _⟩ := isS_true h.1
  obtain ⟨_, b, h3, h4, _⟩ := isS_true h.2
  exact ⟨hg, a, b, h1, h3, h2, h4⟩
theorem shG_mov {l : List Int} (hg : grpB l = true) (t x : Nat) : shG (l.getD 0 1) (l.getD 1 1) (l.getD 2 1) t x = movN l t x := (sh_tri hg (x : Int) (bitsN t)).symm
theorem sum_prog {l : List Int} (hg : grpB l = true) {s t : Nat} (hs : s < 2 ^ (prodI l).toNat) (ht : t < 2 ^ (prodI l).toNat) :
    orG (fun x => shG (l.getD 0 1) (l.getD 1 1) (l.getD 2 1) t x) (bitsN s) = sumN l s t := by
  rw [orG_congr _ (fun x => movN l t x) _ (fun x _ => shG_mov hg t x)]
  exact sumN_comm l (grp_pow hg ht) (grp_pow hg hs)
theorem dif_sum (l : List Int) (s t : Int) : sumE l s (ngE l t) = difE l s t := by
  cases ht : isS l t with
  | false =>
    have e : ngE l t = -1 := by unfold ngE; rw [if_neg (by simp [ht])]
    unfold sumE difE two
    rw [e, isS_neg (l := l) (show (-1 : Int) < 0 by decide), ht, Bool.and_false, if_neg (by simp), if_neg (by simp)]
  | true =>
    obtain ⟨hg, t, rfl, htn, _⟩ := isS_true ht
    have e : ngE l (t : Int) = ((ngN l t : Nat) : Int) := by unfold ngE; rw [if_pos ht]; rfl
    unfold sumE difE two
    rw [e, isS_of hg (ngN_lt hg t), ht]; rfl
theorem pow_prog {l : List Int} (hg : grpB l = true) {s : Nat} (hs : s < 2 ^ (prodI l).toNat) (k : Nat) :
    orG (fun x => shG (l.getD 0 1) (l.getD 1 1) (l.getD 2 1) s x) (bitsN (powS l s k)) = powS l s (k + 1) := sum_prog hg (powS_lt hg s k) hs
end Go.Proofs.YtfkleihnafeoeaaDoor

namespace Go.Proofs.YtfkleihnafeoeaaDoor
open Go.RowKit
set_option maxRecDepth 1000000
/-- The library's table and its variable, below block B. -/
def TabE (B : Nat) (w : World) : Prop := TabZ B w ∧ ErrB B w
theorem TabE.on {B : Nat} {w w1 : World} (h : TabE B w) (hb : Below B w w1) : TabE B w1 := ⟨h.1.on hb, h.2.on hb⟩
theorem iSumN {l : List Int} (hg : grpB l = true) (w : World) (s t : Nat) (hs : s < 2 ^ (prodI l).toNat) (ht : t < 2 ^ (prodI l).toNat) (B : Nat) (hB0 : B ≤ w.heap.size) (hz : TabZ B w) :
    Calls Tryd.prog 38 #[tV (l.getD 0 1) (l.getD 1 1) (l.getD 2 1), .int .u64 s, .int .u64 t] w fun e w' => e = .returned (.int .u64 (sumN l s t : Nat)) ∧ Below w.heap.size w w' := by
  have HP := prod_pad (grpB_true hg).1
  have h := iSum w _ _ _ s t (tri_grp hg) (by rw [← HP]; exact hs) (by rw [← HP]; exact ht) B hB0 hz
  rw [sum_prog hg hs ht] at h
  exact h
end Go.Proofs.YtfkleihnafeoeaaDoor

namespace Go.Proofs.YtfkleihnafeoeaaDoor
open Go.RowKit
set_option maxRecDepth 1000000
set_option maxHeartbeats 4000000 in
theorem sPrg (w : World) (a : Option Addr) (l : List Int) (n cap : Nat) (x d m : Nat) (hx : x < (prodI l).toNat) (hd : d < (prodI l).toNat) (hm : m ≤ 24) (hn : n = l.length) (hg : grpB l = true) (hi : Ints w a l) :
    Calls Tryd.prog 28 #[.agg #[.slice a n cap], .int .i64 x, .int .i64 d, .int .i64 m] w fun e w' => e = .returned (.int .i64 (prgN l x d m : Nat)) ∧ Below w.heap.size w w' := by
  have HI := Lib.hid (ints_alloc hi (.cells #[.slice a n cap] 27))
  have HN := Lib.hid hn
  have C1 := newC w (.slice a n cap) 27 (n := w.heap.size) rfl
  have HB := Lib.hid (Joins.below_alloc1 w (.cells #[.slice a n cap] 27))
  have T0 := Lib.hid (Below.refl (w.alloc (.cells #[.slice a n cap] 27)).heap.size (w.alloc (.cells #[.slice a n cap] 27)))
  clear hi hn
  have HG := Lib.hid hg
  have hp := (ords_grp hg).prod
  have hd23 : (d : Int) ≤ 23 := by omega
  have hd0 : (0 : Int) ≤ (d : Int) := by omega
  have HP1 := Lib.hid (fun k => show prgN l x d (k + 1) = prgN l x d k ||| 2 ^ stp (adN l) d x k from rfl)
  have HS1 := Lib.hid (fun k => show stp (adN l) d x (k + 1) = adN l (stp (adN l) d x k) d from rfl)
  have HPL := Lib.hid (fun k => grp_pow hg (prg_lt hg hx (d := d) k))
  have HSL : Hid (∀ k, stp (adN l) d x k ≤ 23) := Lib.hid (fun k => by have := stp_lt hg hx (d := d) k; omega)
  have HAD : Hid (∀ y : Nat, addN l (y : Int) (d : Int) = ((adN l y d : Nat) : Int)) := Lib.hid (fun y => by have := addN_in (ords_grp hg) (y : Int) (d : Int); unfold adN; omega)
  have HP0 : Hid (prgN l x d 0 = 0) := Lib.hid rfl
  have HS0 : Hid (stp (adN l) d x 0 = x) := Lib.hid rfl
  obtain ⟨R, hR⟩ : ∃ R, prgN l x d = R := ⟨_, rfl⟩
  obtain ⟨T, hT⟩ : ∃ T, stp (adN l) d x = T := ⟨_, rfl⟩
  rw [hR, hT] at HP1
  rw [hR] at HPL HP0
  rw [hT] at HS1 HSL HS0
  rw [hR]
  clear hR hT hp hg hx hd
  go_enter Tryd.func28, Tryd.ntmps28
  go_wp2
  go_loopw [9, 10, 11] (fun o y i wr => ∃ k : Nat, k ≤ m ∧ i = .int .i64 k ∧ o = .int .i64 (R k : Nat) ∧ y = .int .i64 (T k : Nat) ∧ Below (w.alloc (.cells #[.slice a n cap] 27)).heap.size (w.alloc (.cells #[.slice a n cap] 27)) wr) (fun _ _ i _ => m - (intOf i).toNat)
  case atStart => exact ⟨0, Nat.zero_le _, rfl, by rw [HP0.out]; rfl, by rw [HS0.out], T0.out⟩
  case round =>
    obtain ⟨k, hk, rfl, rfl, rfl, hbel⟩ := hrel
    have c4 := keepC hbel (by simp) C1
    have HIr := Lib.hid (HI.out.below rfl hbel)
    have HBL := Lib.hid hbel
    have hO := HPL.out k
    have hY := HSL.out k
    by_cases hlt : k < m
    · have h1 := HP1.out k
      have h2 := HS1.out k
      obtain ⟨O, hOO⟩ : ∃ O, R k = O := ⟨_, rfl⟩
      obtain ⟨Y, hYY⟩ : ∃ Y, T k = Y := ⟨_, rfl⟩
      rw [hOO, hYY] at h1
      rw [hYY] at h2 hY
      rw [hOO] at hO
      rw [hOO, hYY]
      have h3 := HAD.out Y
      obtain ⟨Z, hZ⟩ : ∃ Z, adN l Y d = Z := ⟨_, rfl⟩
      rw [hZ] at h2 h3
      have HA3 := Lib.hid h3
      have H1 := Lib.hid h1
      have H2 := Lib.hid h2
      have HOR := or_step (O := O) (V := (Y : Int)) hO (by omega) (by omega)
      rw [Int.toNat_natCast] at HOR
      have hy23 : (Y : Int) ≤ 23 := by omega
      have hy0 : (0 : Int) ≤ (Y : Int) := by omega
      clear h1 h2 h3 hOO hYY hZ hO hY hbel
      go_wp2_with (go_at_call 44; refine (sAdd _ _ l _ _ (Y : Int) (d : Int) hy0 hy23 hd0 hd23 HN.out HG.out HIr.out).mono ?_; rw [HA3.out]; rintro e w5 ⟨rfl, hb5⟩)
      go_roundw
      case rel => exact ⟨k + 1, by omega, by go_num, by rw [H1.out], by rw [H2.out], HBL.out.trans (hb5.mono HBL.out.size)⟩
      case measure => simp [intOf]; omega
    · obtain rfl : k = m := by omega
      clear hbel
      go_wp2
      go_ret
      exact ⟨rfl, HB.out.trans (HBL.out.mono (by simp))⟩
theorem tmod_nat10 (m n : Nat) : (m : Int).tmod (n : Int) = ((m % n : Nat) : Int) := by
  rw [Int.tmod_eq_emod_of_nonneg (by omega)]
  rfl
theorem prm_no {l : List Int} {d : Nat} (h2 : 2 ≤ d) (hd : d < (prodI l).toNat) (h : (prodI l).toNat % d = 0) : prmB l = false := by
  cases e : prmB l with
  | false => rfl
  | true =>
    obtain ⟨_, _, hk⟩ := prm_yes e
    rcases hk d (Nat.dvd_of_mod_eq_zero h) with g | g <;> omega
theorem prm_all {l : List Int} (hg : grpB l = true) (h2 : 2 ≤ (prodI l).toNat) (h : ∀ d, 2 ≤ d → d < (prodI l).toNat → (prodI l).toNat % d ≠ 0) : prmB l = true := by
  unfold prmB
  rw [hg, Bool.true_and, Bool.and_eq_true, List.all_eq_true]
  refine ⟨decide_eq_true h2, fun d hd => ?_⟩
  have hd := List.mem_range.1 hd
  by_cases e : d < 2
  · simp [e]
  · have := h d (by omega) hd
    simp [this]
set_option maxHeartbeats 4000000 in
theorem sPrm (w : World) (a : Option Addr) (l : List Int) (n cap : Nat) (hn : n = l.length) (hm : n ≤ 9223372036854775807) (hi : Ints w a l) :
    Calls Tryd.prog 32 #[.agg #[.slice a n cap]] w fun e w' => e = .returned (.bool (prmB l)) ∧ Below w.heap.size w w' := by
  have HI := Lib.hid (ints_alloc hi (.cells #[.slice a n cap] 27))
  have HN := Lib.hid hn
  have C1 := newC w (.slice a n cap) 27 (n := w.heap.size) rfl
  have HB := Lib.hid (Joins.below_alloc1 w (.cells #[.slice a n cap] 27))
  have T0 := Lib.hid (Below.refl (w.alloc (.cells #[.slice a n cap] 27)).heap.size (w.alloc (.cells #[.slice a n cap] 27)))
  clear hi hn
  obtain ⟨P, HO⟩ : ∃ P : Nat, Hid (ordN l = (P : Int)) := by
    cases hg : grpB l with
    | true => exact ⟨(prodI l).toNat, Lib.hid (by rw [ordN_grp hg]; have := (ords_grp hg).prod; omega)⟩
    | false => exact ⟨0, Lib.hid (by rw [ordN_no hg]; rfl)⟩
  have hP24 : P ≤ 24 := by
    cases hg : grpB l with
    | true => have h := HO.out; rw [ordN_grp hg] at h; have := (ords_grp hg).prod; omega
    | false => have h := HO.out; rw [ordN_no hg] at h; omega
  have HNO : Hid (∀ d, 2 ≤ d → d < P → P % d = 0 → prmB l = false) := Lib.hid (fun d h2 hd hz => by
    cases hg : grpB l with
    | true =>
      have h := HO.out
      rw [ordN_grp hg] at h
      have e : (prodI l).toNat = P := by omega
      exact prm_no h2 (by rw [e]; exact hd) (by rw [e]; exact hz)
    | false => unfold prmB; rw [hg]; rfl)
  have HYE : Hid ((∀ d, 2 ≤ d → d < P → P % d ≠ 0) → prmB l = decide (2 ≤ (P : Int))) := Lib.hid (fun hall => by
    cases hg : grpB l with
    | true =>
      have h := HO.out
      rw [ordN_grp hg] at h
      have e : (prodI l).toNat = P := by omega
      by_cases h2 : 2 ≤ P
      · rw [prm_all hg (by rw [e]; exact h2) (by rw [e]; exact hall)]
        exact (decide_eq_true (by omega)).symm
      · rw [show decide (2 ≤ (P : Int)) = false from decide_eq_false (by omega)]
        unfold prmB
        rw [e, show decide (2 ≤ P) = false from decide_eq_false h2, Bool.false_and, Bool.and_false]
    | false =>
      have h := HO.out
      rw [ordN_no hg] at h
      rw [show decide (2 ≤ (P : Int)) = false from decide_eq_false (by omega)]
      unfold prmB; rw [hg]; rfl)
  obtain ⟨Z, hZ⟩ : ∃ Z, prmB l = Z := ⟨_, rfl⟩
  rw [hZ] at HNO HYE
  rw [hZ]
  clear hZ
  go_enter Tryd.func32, Tryd.ntmps32
  go_wp2_with (go_at_call 49; refine (sOrderOf _ _ _ _ _ HN.out hm (HI.out.below rfl T0.out)).mono ?_; rw [HO.out]; rintro e w1 ⟨rfl, hb1⟩; have T1 := Lib.hid (T0.out.trans (hb1.mono T0.out.size)); have c1 := keepC T1.out (by simp) C1)
  go_loopw [4] (fun i wr => ∃ d : Nat, 2 ≤ d ∧ (d ≤ P ∨ d = 2) ∧ i = .int .i64 d ∧ (∀ k, 2 ≤ k → k < d → k < P → P % k ≠ 0) ∧ w1 = wr) (fun i _ => P - (intOf i).toNat)
  case atStart => exact ⟨2, by omega, .inr rfl, rfl, fun k h1 h2 => absurd h2 (by omega), rfl⟩
  case round =>
    obtain ⟨d, hd2, hdP, rfl, hall, rfl⟩ := hrel
    have HALL := Lib.hid hall
    clear hall
    by_cases hlt : d < P
    · have hd24 : d ≤ 24 := by omega
      have hdi : (d : Int) < (P : Int) := by omega
      have hd0 : ((d : Int) == 0) = false := by simp; omega
      have HM := Lib.hid (tmod_nat10 P d)
      by_cases hz : P % d = 0
      · have HZF := Lib.hid (HNO.out d hd2 hlt hz)
        have hm0 : (P : Int).tmod (d : Int) = 0 := by rw [HM.out, hz]; rfl
        have hm1 : (P : Int) % (d : Int) = 0 := by omega
        clear hz
        go_wp2
        go_ret
        exact ⟨by rw [HZF.out]; rfl, HB.out.trans (T1.out.mono (by simp))⟩
      · have hm0 : ((P : Int).tmod (d : Int) == 0) = false := by rw [HM.out]; simp; omega
        have hm1 : ((P : Int) % (d : Int) == 0) = false := by
          have : (P : Int) % (d : Int) ≠ 0 := by omega
          simpa using this
        have HZ0 := Lib.hid hz
        clear hz
        go_wp2
        go_roundw
        case rel => exact ⟨d + 1, by omega, by omega, by go_num, fun k h1 h2 h3 => by
          by_cases e : k = d
          · subst e; exact HZ0.out
          · exact HALL.out k h1 (by omega) h3, by first | trivial | rfl⟩
        case measure => simp [intOf]; omega
    · have HZT := Lib.hid (HYE.out (fun k h1 h2 => HALL.out k h1 (by omega) h2))
      have hdi : ¬ (d : Int) < (P : Int) := by omega
      go_wp2
      go_ret
      exact ⟨by rw [HZT.out]; rfl, HB.out.trans (T1.out.mono (by simp))⟩
end Go.Proofs.YtfkleihnafeoeaaDoor
