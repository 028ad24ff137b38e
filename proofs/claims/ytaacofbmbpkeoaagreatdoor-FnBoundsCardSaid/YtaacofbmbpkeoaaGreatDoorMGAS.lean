/- Merged: PerI Lst WoI PerJ. -/
import Derived.Test.YtaacofbmbpkeoaaGreatDoorMGAR
import Derived.Test.YtaacofbmbpkeoaaGreatDoorMGAP
import Derived.Deep.RegionHeld3
import Derived.Deep.DeepCutAuto
import Derived.Test.YtaacofbmbpkeoaaGreatDoorMGAI
import Derived.Test.YtaacofbmbpkeoaaGreatDoorMGAL
import Derived.Test.YtaacofbmbpkeoaaGreatDoorMGAK
import Derived.Test.YtaacofbmbpkeoaaGreatDoorSumMath
import Derived.Test.YtaacofbmbpkeoaaGreatDoorMGAJ
namespace Go.Proofs.YtaacofbmbpkeoaaGreatDoor
open Go.RowKit Go.Shelf
attribute [local go_sem] Oper.semAt_some
set_option maxRecDepth 1000000
theorem quad_cell {w : World} {B : Nat} {x y z u : Value} {T : TypeId} (h : w.heap[B]? = some (.cells #[x, y, z, u] T (0, 0))) :
    w.cell? ⟨B, 0, none⟩ = some x ∧ w.cell? ⟨B, 1, none⟩ = some y ∧ w.cell? ⟨B, 2, none⟩ = some z ∧ w.cell? ⟨B, 3, none⟩ = some u :=
  ⟨by simp [World.cell?, h], by simp [World.cell?, h], by simp [World.cell?, h], by simp [World.cell?, h]⟩
set_option maxHeartbeats 1000000 in
theorem iKept {l : List Int} (hg : grpB l = true) (w : World) (s x : Nat) (hs : s < 2 ^ (prodI l).toNat) (hx : (x : Int) < prodI l) :
    Calls Tryz.prog 80 #[.agg #[.int .i64 (l.getD 0 1), .int .i64 (l.getD 1 1), .int .i64 (l.getD 2 1), .int .u64 s], .int .i64 x] w fun e w' => e = .returned (.bool (movN l s x == s)) ∧ Below w.heap.size w w' := by
  have HSH := Lib.hid (fun (W : World) => iMov hg W s x hs hx)
  obtain ⟨p, EP⟩ : ∃ p, Hid (l.getD 0 1 = p) := ⟨_, Lib.hid rfl⟩
  obtain ⟨q, EQ⟩ : ∃ q, Hid (l.getD 1 1 = q) := ⟨_, Lib.hid rfl⟩
  obtain ⟨r, ER⟩ : ∃ r, Hid (l.getD 2 1 = r) := ⟨_, Lib.hid rfl⟩
  rw [EP.out, EQ.out, ER.out] at HSH ⊢
  obtain ⟨V, hV⟩ : ∃ V, movN l s x = V := ⟨_, rfl⟩
  rw [hV] at HSH ⊢
  have HB := Lib.hid (Joins.below_alloc1 w (.cells #[.int .i64 p, .int .i64 q, .int .i64 r, .int .u64 s] 82))
  obtain ⟨c0, c1, c2, c3⟩ := quad_cell (heap_alloc_new w (.cells #[.int .i64 p, .int .i64 q, .int .i64 r, .int .u64 s] 82))
  clear hV hs hx hg
  by_cases hvs : V = s
  · subst hvs
    go_enter Tryz.func80, Tryz.ntmps80
    go_wp2
    have T0 := Lib.hid (Below.refl (w.alloc (.cells #[.int .i64 p, .int .i64 q, .int .i64 r, .int .u64 (V : Nat)] 82)).heap.size (w.alloc (.cells #[.int .i64 p, .int .i64 q, .int .i64 r, .int .u64 (V : Nat)] 82)))
    have TD := Lib.hid T0.out.drew
    go_region_held3 (fun W => W.cell? ⟨w.heap.size, 0, none⟩ = some (.int .i64 p) ∧ W.cell? ⟨w.heap.size, 1, none⟩ = some (.int .i64 q) ∧ W.cell? ⟨w.heap.size, 2, none⟩ = some (.int .i64 r) ∧ W.cell? ⟨w.heap.size, 3, none⟩ = some (.int .u64 (V : Nat))) (first | exact ⟨d0, d1, d2, d3⟩ | exact ⟨c0, c1, c2, c3⟩)
      (first | (go_at_call 60; refine (HSH.out _).mono ?_; rintro e w1 ⟨rfl, hb1⟩; have T1 := Lib.hid (TD.out.trans (hb1.mono TD.out.size)); have d0 := keepC T1.out (by simp) c0; have d1 := keepC T1.out (by simp) c1; have d2 := keepC T1.out (by simp) c2; have d3 := keepC T1.out (by simp) c3))
    go_wp2
    go_ret
    exact ⟨by simp, HB.out.trans (T1.out.mono (by simp))⟩
  · have hne : ((V : Int) == (s : Int)) = false := by
      have : (V : Int) ≠ (s : Int) := by omega
      simpa using this
    have hnn : (V == s) = false := by simpa using hvs
    go_enter Tryz.func80, Tryz.ntmps80
    go_wp2
    have T0 := Lib.hid (Below.refl (w.alloc (.cells #[.int .i64 p, .int .i64 q, .int .i64 r, .int .u64 (s : Nat)] 82)).heap.size (w.alloc (.cells #[.int .i64 p, .int .i64 q, .int .i64 r, .int .u64 (s : Nat)] 82)))
    have TD := Lib.hid T0.out.drew
    go_region_held3 (fun W => W.cell? ⟨w.heap.size, 0, none⟩ = some (.int .i64 p) ∧ W.cell? ⟨w.heap.size, 1, none⟩ = some (.int .i64 q) ∧ W.cell? ⟨w.heap.size, 2, none⟩ = some (.int .i64 r) ∧ W.cell? ⟨w.heap.size, 3, none⟩ = some (.int .u64 (s : Nat))) (first | exact ⟨d0, d1, d2, d3⟩ | exact ⟨c0, c1, c2, c3⟩)
      (first | (go_at_call 60; refine (HSH.out _).mono ?_; rintro e w1 ⟨rfl, hb1⟩; have T1 := Lib.hid (TD.out.trans (hb1.mono TD.out.size)); have d0 := keepC T1.out (by simp) c0; have d1 := keepC T1.out (by simp) c1; have d2 := keepC T1.out (by simp) c2; have d3 := keepC T1.out (by simp) c3))
    go_wp2
    go_ret
    exact ⟨by simp [hnn], HB.out.trans (T1.out.mono (by simp))⟩
set_option maxHeartbeats 2000000 in
theorem iStabT {l : List Int} (hg : grpB l = true) (w : World) (s : Nat) (hs : s < 2 ^ (prodI l).toNat) :
    Calls Tryz.prog 79 #[tV (l.getD 0 1) (l.getD 1 1) (l.getD 2 1), .func (.func 80) #[.agg #[.int .i64 (l.getD 0 1), .int .i64 (l.getD 1 1), .int .i64 (l.getD 2 1), .int .u64 s]] #[]] w fun e w' => e = .returned (.int .u64 (stN l s : Nat)) ∧ Below w.heap.size w w' := by
  have hP := (ords_grp hg).prod
  obtain ⟨P, hPe⟩ : ∃ P : Nat, prodI l = (P : Int) := ⟨(prodI l).toNat, by omega⟩
  have HK := Lib.hid (fun (W : World) (k : Nat) (hk : (k : Int) < prodI l) => iKept hg W s k hs hk)
  have HPR := Lib.hid (fun (W : World) => iProduct W _ _ _ (tri_grp hg))
  rw [← prod_pad (grpB_true hg).1, hPe] at HPR
  rw [hPe] at hP HK
  rw [show stN l s = stK l s P by unfold stN; rw [hPe, Int.toNat_natCast]]
  have hP24 : P ≤ 24 := by omega
  obtain ⟨p, EP⟩ : ∃ p, Hid (l.getD 0 1 = p) := ⟨_, Lib.hid rfl⟩
  obtain ⟨q, EQ⟩ : ∃ q, Hid (l.getD 1 1 = q) := ⟨_, Lib.hid rfl⟩
  obtain ⟨r, ER⟩ : ∃ r, Hid (l.getD 2 1 = r) := ⟨_, Lib.hid rfl⟩
  rw [EP.out, EQ.out, ER.out] at HK HPR
  rw [EP.out, EQ.out, ER.out]
  have HAL := Lib.hid (heap_alloc_new w (.cells #[.int .i64 p, .int .i64 q, .int .i64 r] 41))
  have HB := Lib.hid (Joins.below_alloc1 w (.cells #[.int .i64 p, .int .i64 q, .int .i64 r] 41))
  have T0 := Lib.hid (Below.refl (w.alloc (.cells #[.int .i64 p, .int .i64 q, .int .i64 r] 41)).heap.size (w.alloc (.cells #[.int .i64 p, .int .i64 q, .int .i64 r] 41)))
  clear hP hs hPe hg
  go_enter Tryz.func79, Tryz.ntmps79
  go_wp2_with (go_at_call 59; refine (HPR.out _).mono ?_; rintro e w1 ⟨rfl, hb1⟩; have T1 := Lib.hid (T0.out.trans hb1); clear hb1)
  go_loopw [5, 9] (fun o i wr => ∃ k : Nat, k ≤ P ∧ i = .int .i64 k ∧ o = .int .u64 (stK l s k : Nat) ∧ Below (w.alloc (.cells #[.int .i64 p, .int .i64 q, .int .i64 r] 41)).heap.size (w.alloc (.cells #[.int .i64 p, .int .i64 q, .int .i64 r] 41)) wr) (fun _ i _ => P - (intOf i).toNat)
  case atStart => exact ⟨0, Nat.zero_le _, rfl, rfl, T1.out⟩
  case round =>
    obtain ⟨k, hk, rfl, rfl, hbel⟩ := hrel
    have HBL := Lib.hid hbel
    by_cases hlt : k < P
    · have hk23 : k ≤ 23 := by omega
      have hkP : (k : Int) < (P : Int) := by omega
      have HY := Lib.hid (fun h => stK_yes (l := l) (s := s) (k := k) h)
      have HZ := Lib.hid (fun h => stK_no (l := l) (s := s) (k := k) h)
      have hS24 : stK l s k < 16777216 := stK_lt24 l s (by omega)
      have HKK := Lib.hid (fun (W : World) => HK.out W k hkP)
      obtain ⟨S, hSS⟩ : ∃ S, stK l s k = S := ⟨_, rfl⟩
      obtain ⟨V, hV⟩ : ∃ V, movN l s k = V := ⟨_, rfl⟩
      rw [hSS] at HY HZ hS24
      rw [hSS]
      rw [hV] at HY HZ HKK
      have HS24 := Lib.hid hS24
      clear hSS hV hS24 hbel
      by_cases hvs : V = s
      · have E1 := Lib.hid (HY.out hvs)
        have HQ : Hid ((V == s) = true) := Lib.hid (by simpa using hvs)
        clear HY HZ hvs
        go_wp2_with (first
          | (go_at_call 86; refine (iWith _ S k HS24.out hk23).mono ?_; rintro e w6 ⟨rfl, rfl⟩)
          | (go_at_call 80; refine (HKK.out _).mono ?_; rw [HQ.out]; rintro e w5 ⟨rfl, hb5⟩))
        go_roundw
        case rel => exact ⟨k + 1, by omega, by go_num, by rw [E1.out], HBL.out.trans (hb5.mono HBL.out.size)⟩
        case measure => simp [intOf]; omega
      · have E1 := Lib.hid (HZ.out hvs)
        have HQ : Hid ((V == s) = false) := Lib.hid (by simpa using hvs)
        clear HY HZ hvs
        go_wp2_with (go_at_call 80; refine (HKK.out _).mono ?_; rw [HQ.out]; rintro e w5 ⟨rfl, hb5⟩)
        go_roundw
        case rel => exact ⟨k + 1, by omega, by go_num, by rw [E1.out], HBL.out.trans (hb5.mono HBL.out.size)⟩
        case measure => simp [intOf]; omega
    · obtain rfl : k = P := by omega
      clear hbel
      go_wp2
      go_ret
      exact ⟨rfl, HB.out.trans (HBL.out.mono (by simp))⟩
set_option maxHeartbeats 1000000 in
theorem iStabN {l : List Int} (hg : grpB l = true) (w : World) (s : Nat) (hs : s < 2 ^ (prodI l).toNat) :
    Calls Tryz.prog 52 #[tV (l.getD 0 1) (l.getD 1 1) (l.getD 2 1), .int .u64 s] w fun e w' => e = .returned (.int .u64 (stN l s : Nat)) ∧ Below w.heap.size w w' := by
  have hmf : ∀ (fn : Fn) (first cap : Array Value) (w : World), (Instr.makeFunc fn first cap).run Tryz.prog w = .ok (.func fn first cap) w := fun _ _ _ _ => rfl
  have HK := Lib.hid (fun (W : World) => iStabT hg W s hs)
  obtain ⟨p, EP⟩ : ∃ p, Hid (l.getD 0 1 = p) := ⟨_, Lib.hid rfl⟩
  obtain ⟨q, EQ⟩ : ∃ q, Hid (l.getD 1 1 = q) := ⟨_, Lib.hid rfl⟩
  obtain ⟨r, ER⟩ : ∃ r, Hid (l.getD 2 1 = r) := ⟨_, Lib.hid rfl⟩
  rw [EP.out, EQ.out, ER.out] at HK
  rw [EP.out, EQ.out, ER.out]
  have HB := Lib.hid (Joins.below_alloc1 w (.cells #[.int .i64 p, .int .i64 q, .int .i64 r] 41))
  obtain ⟨c0, c1, c2, _, _, _⟩ := trip_cell (heap_alloc_new w (.cells #[.int .i64 p, .int .i64 q, .int .i64 r] 41))
  clear hs hg
  go_enter Tryz.func52, Tryz.ntmps52
  go_wp2_with (go_at_call 79; refine (HK.out _).mono ?_; rintro e w2 ⟨rfl, hb2⟩)
  go_ret
  exact ⟨rfl, HB.out.trans (hb2.mono (by simp))⟩
end Go.Proofs.YtaacofbmbpkeoaaGreatDoor

namespace Go.Proofs.YtaacofbmbpkeoaaGreatDoor
open Go.RowKit Go.Shelf
attribute [local go_sem] Oper.semAt_some
set_option maxRecDepth 1000000
end Go.Proofs.YtaacofbmbpkeoaaGreatDoor

namespace Go.Proofs.YtaacofbmbpkeoaaGreatDoor
open Go.RowKit
attribute [local go_sem] Oper.semAt_some
set_option maxRecDepth 1000000
theorem iWithout (w : World) (s x : Nat) (hs : s < 16777216) (hx : x ≤ 23) :
    Calls Tryz.prog 67 #[.int .u64 s, .int .i64 x] w fun e w' => e = .returned (.int .u64 (woN s x : Nat)) ∧ w = w' := by
  have hp := pow_le24 (k := x) (by omega)
  have hw : IntKind.u64.wrap (2 ^ x) = ((2 ^ x : Nat) : Int) := by
    rw [pow_nat, IntKind.wrap_u64]
    generalize 2 ^ x = N at *
    omega
  have hb : bits .andNot .u64 (s : Int) ((2 ^ x : Nat) : Int) = ((woN s x : Nat) : Int) := bits_andNot s (2 ^ x) (by omega) (by omega)
  obtain ⟨r, hr⟩ : ∃ r, woN s x = r := ⟨_, rfl⟩
  rw [hr] at hb
  rw [hr]
  rw [← hw] at hb
  clear hr hw hp
  go_enter Tryz.func67, Tryz.ntmps67
  go_wp2
  go_ret
  exact ⟨rfl, rfl⟩
end Go.Proofs.YtaacofbmbpkeoaaGreatDoor

namespace Go.Proofs.YtaacofbmbpkeoaaGreatDoor
open Go.RowKit Go.Shelf
attribute [local go_sem] Oper.semAt_some
set_option maxRecDepth 1000000
set_option maxHeartbeats 2000000 in
theorem iStab (w : World) (a : Option Addr) (l : List Int) (n cap : Nat) (s : Int) (hn : n = l.length) (hm : n ≤ 9223372036854775807) (hi : Ints w a l) :
    Calls Tryz.prog 17 #[.agg #[.slice a n cap], .int .i64 s] w fun e w' => e = .returned (.int .i64 (stE l s)) ∧ Below w.heap.size w w' := by
  have HI := Lib.hid (ints_alloc hi (.cells #[.slice a n cap] 26))
  have HN := Lib.hid hn
  have C1 := newC w (.slice a n cap) 26 (n := w.heap.size) rfl
  have HB := Lib.hid (Joins.below_alloc1 w (.cells #[.slice a n cap] 26))
  have T0 := Lib.hid (Below.refl (w.alloc (.cells #[.slice a n cap] 26)).heap.size (w.alloc (.cells #[.slice a n cap] 26)))
  clear hi hn
  cases hs : isS l s with
  | false =>
    have HS := Lib.hid hs
    rw [show stE l s = -1 by unfold stE; rw [if_neg (by simp [hs])]]
    clear hs
    go_enter Tryz.func17, Tryz.ntmps17
    go_wp2_with (go_at_call 54; refine (iSetIn_no _ _ _ _ _ _ HN.out hm (HI.out.below rfl T0.out) HS.out).mono ?_; rintro e w1 ⟨rfl, hb1⟩; have TA := Lib.hid ((HB.out.trans (hb1.mono (by simp))).alloc (Nat.le_trans (by simp) hb1.size) (.cells #[.int .i64 0, .int .i64 0, .int .i64 0] 41)); have HAL := Lib.hid (heap_alloc_new w1 (.cells #[.int .i64 0, .int .i64 0, .int .i64 0] 41)); obtain ⟨y0, y1, y2, _, _, _⟩ := trip_cell HAL.out)
    go_ret
    exact ⟨rfl, TA.out⟩
  | true =>
    have HS := Lib.hid hs
    obtain ⟨hg, s, rfl, hsn, hs24⟩ := isS_true hs
    rw [show stE l (s : Int) = ((stN l s : Nat) : Int) by unfold stE; rw [if_pos hs, Int.toNat_natCast]]
    have HST := Lib.hid (fun (W : World) => iStabN hg W s hsn)
    obtain ⟨p, EP⟩ : ∃ p, Hid (l.getD 0 1 = p) := ⟨_, Lib.hid rfl⟩
    obtain ⟨q, EQ⟩ : ∃ q, Hid (l.getD 1 1 = q) := ⟨_, Lib.hid rfl⟩
    obtain ⟨r, ER⟩ : ∃ r, Hid (l.getD 2 1 = r) := ⟨_, Lib.hid rfl⟩
    obtain ⟨S, hSS⟩ : ∃ S, stN l s = S := ⟨_, rfl⟩
    have hS24 : S < 16777216 := by rw [← hSS]; exact stN_lt24 hg s
    rw [hSS]
    rw [EP.out, EQ.out, ER.out] at HST
    rw [hSS] at HST
    clear hs hsn hg hSS
    go_enter Tryz.func17, Tryz.ntmps17
    go_wp2_with (first
      | (go_at_call 52; refine (HST.out _).mono ?_; rintro e w2 ⟨rfl, hb2⟩; have T2 := Lib.hid (TA.out.trans (hb2.mono TA.out.size)))
      | (go_at_call 54; refine (iSetIn_yes _ _ _ _ _ _ HN.out hm (HI.out.below rfl T0.out) HS.out).mono ?_; rw [EP.out, EQ.out, ER.out]; rintro e w1 ⟨rfl, hb1⟩; have TA := Lib.hid ((HB.out.trans (hb1.mono (by simp))).alloc (Nat.le_trans (by simp) hb1.size) (.cells #[.int .i64 p, .int .i64 q, .int .i64 r] 41)); have HAL := Lib.hid (heap_alloc_new w1 (.cells #[.int .i64 p, .int .i64 q, .int .i64 r] 41)); obtain ⟨y0, y1, y2, _, _, _⟩ := trip_cell HAL.out))
    go_ret
    exact ⟨rfl, T2.out⟩
set_option maxHeartbeats 2000000 in
theorem iPer (w : World) (a : Option Addr) (l : List Int) (n cap : Nat) (s : Int) (hn : n = l.length) (hm : n ≤ 9223372036854775807) (hi : Ints w a l) :
    Calls Tryz.prog 21 #[.agg #[.slice a n cap], .int .i64 s] w fun e w' => e = .returned (.bool (perB l s)) ∧ Below w.heap.size w w' := by
  have HI := Lib.hid (ints_alloc hi (.cells #[.slice a n cap] 26))
  have HN := Lib.hid hn
  have C1 := newC w (.slice a n cap) 26 (n := w.heap.size) rfl
  have HB := Lib.hid (Joins.below_alloc1 w (.cells #[.slice a n cap] 26))
  have T0 := Lib.hid (Below.refl (w.alloc (.cells #[.slice a n cap] 26)).heap.size (w.alloc (.cells #[.slice a n cap] 26)))
  clear hi hn
  cases hs : isS l s with
  | false =>
    have HS := Lib.hid hs
    rw [show perB l s = false by unfold perB; rw [hs]; rfl]
    clear hs
    go_enter Tryz.func21, Tryz.ntmps21
    go_wp2_with (go_at_call 54; refine (iSetIn_no _ _ _ _ _ _ HN.out hm (HI.out.below rfl T0.out) HS.out).mono ?_; rintro e w1 ⟨rfl, hb1⟩; have TA := Lib.hid ((HB.out.trans (hb1.mono (by simp))).alloc (Nat.le_trans (by simp) hb1.size) (.cells #[.int .i64 0, .int .i64 0, .int .i64 0] 41)); have HAL := Lib.hid (heap_alloc_new w1 (.cells #[.int .i64 0, .int .i64 0, .int .i64 0] 41)); obtain ⟨y0, y1, y2, _, _, _⟩ := trip_cell HAL.out)
    go_ret
    exact ⟨rfl, TA.out⟩
  | true =>
    have HS := Lib.hid hs
    obtain ⟨hg, s, rfl, hsn, hs24⟩ := isS_true hs
    rw [show perB l (s : Int) = decide (1 < stN l s) by unfold perB; rw [hs, Int.toNat_natCast]; rfl]
    have HST := Lib.hid (fun (W : World) => iStabN hg W s hsn)
    obtain ⟨p, EP⟩ : ∃ p, Hid (l.getD 0 1 = p) := ⟨_, Lib.hid rfl⟩
    obtain ⟨q, EQ⟩ : ∃ q, Hid (l.getD 1 1 = q) := ⟨_, Lib.hid rfl⟩
    obtain ⟨r, ER⟩ : ∃ r, Hid (l.getD 2 1 = r) := ⟨_, Lib.hid rfl⟩
    obtain ⟨S, hSS⟩ : ∃ S, stN l s = S := ⟨_, rfl⟩
    have hS1 : 1 ≤ S := by rw [← hSS]; exact bit0_pos (stN_bit0 hg hsn)
    rw [hSS]
    have HQ : Hid ((!((S : Int) == 1)) = decide (1 < S)) := Lib.hid (by
      by_cases h : S = 1
      · subst h; rfl
      · have h1 : ((S : Int) == 1) = false := by
          have : (S : Int) ≠ 1 := by omega
          simpa using this
        have h2 : 1 < S := by omega
        rw [h1]; simp [h2])
    rw [EP.out, EQ.out, ER.out] at HST
    rw [hSS] at HST
    clear hs hsn hg hSS
    go_enter Tryz.func21, Tryz.ntmps21
    go_wp2_with (first
      | (go_at_call 52; refine (HST.out _).mono ?_; rintro e w2 ⟨rfl, hb2⟩; have T2 := Lib.hid (TA.out.trans (hb2.mono TA.out.size)))
      | (go_at_call 54; refine (iSetIn_yes _ _ _ _ _ _ HN.out hm (HI.out.below rfl T0.out) HS.out).mono ?_; rw [EP.out, EQ.out, ER.out]; rintro e w1 ⟨rfl, hb1⟩; have TA := Lib.hid ((HB.out.trans (hb1.mono (by simp))).alloc (Nat.le_trans (by simp) hb1.size) (.cells #[.int .i64 p, .int .i64 q, .int .i64 r] 41)); have HAL := Lib.hid (heap_alloc_new w1 (.cells #[.int .i64 p, .int .i64 q, .int .i64 r] 41)); obtain ⟨y0, y1, y2, _, _, _⟩ := trip_cell HAL.out))
    go_ret
    exact ⟨by first | rfl | (rw [← HQ.out]; rfl) | (rw [← HQ.out]; simp) | (rw [← HQ.out]), T2.out⟩
end Go.Proofs.YtaacofbmbpkeoaaGreatDoor
