/- Merged: Each On GrpIn. -/
import Derived.Test.YtaacofbmbpkeoaaGreatDoorMGAG
import Derived.RangeFuncFrom
import Derived.RangeFuncBox
import Derived.RangeFuncNested
import Derived.RangeFuncBound
import Derived.RangeFuncCalls
import Derived.RangeFuncLeaves
import Derived.Shelf.Abstract
import Derived.Shelf.RegionOpen
import Derived.Shelf.Spec.TrailingZeros
import Derived.WalkKit
import Derived.OwnWalkIn
import Derived.TacticsInMore
import Derived.LoopNIn
import Derived.LoopIn
import Derived.Maps.AppendAt
import Derived.Lib.LaidTab
import Derived.Lib.AppendIntMem
import Derived.Test.YtaacofbmbpkeoaaGreatDoorMGAF
namespace Go.Proofs.YtaacofbmbpkeoaaGreatDoor
open Go.RowKit Go.Shelf
attribute [local go_sem] Oper.semAt_some
set_option maxRecDepth 1000000
def tabZ : List Int := Lib.deBruijn64tab.map fun (n : Nat) => (n : Int)
/-- The library's table reads as it is laid, whatever is done from block B on. -/
def TabZ (B : Nat) (w : World) : Prop := Lib.TabBelow Tryz.prog B w "math/bits.deBruijn64tab" .u8 tabZ
theorem TabZ.on {B : Nat} {w w1 : World} (h : TabZ B w) (hb : Below B w w1) : TabZ B w1 := Lib.TabBelow.on h hb
theorem TabZ.at {B : Nat} {w : World} (h : TabZ B w) (j : Nat) (hj : j < 64) : w.cell? ⟨2, j, none⟩ = some (.int .u8 ((Lib.deBruijn64tab.getD j 0 : Nat) : Int)) := by
  have h1 := Lib.TabIs.cell (g := 2) (Lib.TabBelow.here h) (by kernel_rfl) j (by unfold tabZ; rw [List.length_map]; exact hj)
  have hl : j < Lib.deBruijn64tab.length := hj
  simpa [tabZ, List.getD, List.getElem?_eq_getElem hl] using h1
theorem iTz64 (w : World) (x : Nat) (hx : x < 16777216) (h0 : x ≠ 0) (B : Nat) (ht : TabZ B w) :
    Calls Tryz.prog 114 #[.int .u64 x] w fun e w' => e = .returned (.int .i64 (Lib.ctz 64 x : Nat)) ∧ w = w' := by
  have hx64 : x < 18446744073709551616 := Nat.lt_trans hx (by decide)
  obtain ⟨hlow, hk⟩ := Lib.lowest_bit 64 x h0 hx64
  obtain ⟨hi, htab⟩ := Lib.deBruijn64_at _ hk
  have hcell := ht.at _ hi
  rw [htab] at hcell
  have key := tz64_key x _ hx64 h0 hlow
  have hx0 : ((x : Int) == 0) = false := by simp; omega
  obtain ⟨k, hkk⟩ : ∃ k, Lib.ctz 64 x = k := ⟨_, rfl⟩
  rw [hkk] at hcell hk
  rw [hkk]
  obtain ⟨idx, hidx⟩ : ∃ i, 2 ^ Lib.ctz 64 x * 285870213051353865 % 18446744073709551616 / 288230376151711744 = i := ⟨_, rfl⟩
  rw [hidx] at key hi
  rw [hkk] at hidx
  rw [hidx] at hcell
  clear htab hlow hkk hidx h0 ht
  go_enter Tryz.func114, Tryz.ntmps114
  go_wp2_with (simp only [key])
  go_ret
  exact ⟨rfl, rfl⟩
theorem iTz (w : World) (x : Nat) (hx : x < 16777216) (h0 : x ≠ 0) (B : Nat) (ht : TabZ B w) :
    Calls Tryz.prog 107 #[.int .u64 x] w fun e w' => e = .returned (.int .i64 (Lib.ctz 64 x : Nat)) ∧ w = w' := by
  have HX := Lib.hid hx
  have H0 := Lib.hid h0
  have HT := Lib.hid ht
  clear ht h0
  go_enter Tryz.func107, Tryz.ntmps107
  go_wp2_with (go_at_call 114; refine (iTz64 _ x HX.out H0.out B HT.out).mono ?_; rintro e w1 ⟨rfl, rfl⟩)
  go_ret
  exact ⟨rfl, rfl⟩
theorem iLeast (w : World) (x : Nat) (hx : x < 16777216) (h0 : x ≠ 0) (B : Nat) (ht : TabZ B w) :
    Calls Tryz.prog 92 #[.int .u64 x] w fun e w' => e = .returned (.int .i64 (Lib.ctz 64 x : Nat)) ∧ w = w' := by
  have HX := Lib.hid hx
  have H0 := Lib.hid h0
  have HT := Lib.hid ht
  clear ht h0
  go_enter Tryz.func92, Tryz.ntmps92
  go_wp2_with (go_at_call 107; refine (iTz _ x HX.out H0.out B HT.out).mono ?_; rintro e w1 ⟨rfl, rfl⟩)
  go_ret
  exact ⟨rfl, rfl⟩
set_option maxHeartbeats 1000000 in
theorem each_in (n : Nat) (s : Nat) (hs : s < 2 ^ 24) (B l : Nat) (J : List Nat → World → Prop) (hT : ∀ pre W, J pre W → TabZ B W)
    (hY : ∀ pre x W, J pre W → x < 24 → s.testBit x = true → pre.length < 24 → YieldAt Fence.wide (n - 1) Tryz.prog l #[.int .i64 (x : Nat)] W fun e W' => e = .returned (.bool true) ∧ J (pre ++ [x]) W')
    (W : World) (h0 : J [] W) :
    CallsIn Fence.wide n Tryz.prog 68 #[.int .u64 s, .func (.yield l) #[] #[]] W fun e W' => (∃ v, e = .returned v) ∧ J (bitsN s) W' := by
  have HS := Lib.hid hs
  have HY := Lib.hid hY
  have HTB := Lib.hid hT
  clear hs hY hT
  refine callsIn_of_wp Tryz.func68 rfl trivial ?_ rfl
  simp only [Tryz.ntmps68, List.size_toArray, List.length_cons, List.length_nil, Nat.reduceAdd, Nat.reduceSub, Array.replicate_succ, Array.replicate_zero, List.push_toArray, List.append_toArray, List.nil_append, List.cons_append]
  gi_wp2
  gi_loopw [4] (fun r wr => ∃ k R : Nat, k ≤ 24 ∧ r = .int .u64 (R : Nat) ∧ Hid (restK s k = R) ∧ J (upK s k) wr) (fun r _ => (intOf r).toNat)
  case atStart => exact ⟨0, s, by omega, rfl, Lib.hid (restK_zero s), h0⟩
  case round =>
    obtain ⟨k, R, hk, rfl, HR, hJ⟩ := hrel
    by_cases hz : R = 0
    · have HE := Lib.hid (restK_end (a := s) (k := k) (by rw [HR.out, hz]) hk)
      subst hz
      have hn0 : ((((0 : Nat) : Int)) == 0) = true := rfl
      gi_wp2
      go_end0
      exact ⟨⟨_, rfl⟩, by rw [← HE.out]; exact hJ⟩
    · obtain ⟨t, ht, hkt, ht24, hu, hand, hlt⟩ := rest_step (a := s) (k := k) HS.out (by rw [HR.out]; exact hz)
      rw [HR.out] at ht hand hlt
      have hRlt : R < 16777216 := by
        rw [← HR.out]; exact Nat.lt_of_le_of_lt (restK_le s k) HS.out
      have H1 := Lib.hid hRlt
      have H2 := Lib.hid hz
      have hne : ((R : Int) == 0) = false := by simp; omega
      obtain ⟨R2, HR2⟩ : ∃ R2, Hid (restK s (t + 1) = R2) := ⟨_, Lib.hid rfl⟩
      rw [HR2.out] at hand hlt
      have HBB : Hid (bits .and .u64 (R : Int) (IntKind.u64.wrap ((R : Int) - 1)) = (R2 : Int)) := Lib.hid (by
        rw [← hand, ← bits_and_u64_nat R (R - 1) (by omega) (by omega), IntKind.wrap_u64]
        congr 1; omega)
      have HTT := Lib.hid ht
      have HU := Lib.hid hu
      have HLT := Lib.hid hlt
      have HT24 := Lib.hid ht24
      have HJ := Lib.hid hJ
      obtain ⟨fn, tmps, assign, body, hy, hR⟩ := HY.out (upK s k) t wr hJ ht24 (upK_mem (k := t + 1) (by rw [hu]; simp)).2 (Nat.lt_of_le_of_lt (upK_len s k) (by omega))
      clear ht hu hlt hand hz hJ
      gi_wp2
      refine ⟨trivial, fun h => (by simp [Fence.wide] at h), ?_⟩
      refine (callsIn_wide.2 (iLeast _ R H1.out H2.out B (HTB.out _ _ HJ.out))).mono ?_
      rw [HTT.out]
      rintro e w3 ⟨rfl, rfl⟩
      gi_wp2
      refine ⟨fun h => (by simp [Fence.wide] at h), hR.mono ?_⟩
      rintro e W3 ⟨rfl, hJ3⟩
      gi_wp2
      go_roundw
      case rel => exact ⟨t + 1, R2, by omega, by rw [HBB.out], HR2, by rw [HU.out]; exact hJ3⟩
      case measure => rw [HBB.out]; have := HLT.out; simp [intOf]; omega
end Go.Proofs.YtaacofbmbpkeoaaGreatDoor

namespace Go.Proofs.YtaacofbmbpkeoaaGreatDoor
open Go.RowKit
set_option maxRecDepth 1000000
/-- W keeps all that stood in W0. -/
def On (W0 W : World) : Prop := Below W0.heap.size W0 W
theorem On.step {W0 W W' : World} (o : On W0 W) (h : Below W.heap.size W W') : On W0 W' := Below.trans o (h.mono (Below.size o))
theorem On.drew {W0 W : World} (o : On W0 W) : On W0 W.drew := Below.drew o
theorem On.ints {W0 W : World} {a : Option Addr} {l : List Int} (o : On W0 W) (h : Ints W0 a l) : Ints W a l := h.below rfl o
theorem On.cell {W0 W : World} {p : Addr} {v : Value} (o : On W0 W) (h : W0.cell? p = some v) : W.cell? p = some v := keepC o (World.block_lt_of_cell? W0 _ h) h
theorem On.tab {W0 W : World} {B : Nat} (o : On W0 W) (hB : B ≤ W0.heap.size) (h : TabZ B W0) : TabZ B W := h.on (Below.mono o hB)
/-- What stands when a group has been drawn and laid into its variable. -/
theorem laid_of {w w0 w1 : World} {au : Option Addr} {cu B : Nat} {l : List Int} (hw : Below B w w0) (hB : B ≤ w0.heap.size) (ho : w1.ownsRow w0.heap.size 3 1 (.slice au l.length cu) l.length (l.map (Value.int .i64))) (hb : Below w0.heap.size w0 w1) :
    Below B w (w1.alloc (.cells #[.slice au l.length cu] 26)) ∧ Ints (w1.alloc (.cells #[.slice au l.length cu] 26)) au l ∧ (w1.alloc (.cells #[.slice au l.length cu] 26)).cell? ⟨w1.heap.size, 0, none⟩ = some (.slice au l.length cu) ∧ B ≤ (w1.alloc (.cells #[.slice au l.length cu] 26)).heap.size := by
  have h1 := hb.size
  refine ⟨(hw.trans (hb.mono hB)).trans ((Joins.below_alloc1 w1 _).mono (by omega)), own_ints' rfl (ho.alloc _), newC w1 _ _ rfl, by simp; omega⟩
theorem CodeIn.keep {w w' : World} {a : Option Addr} {len : Nat} (h : CodeIn w a len) (hb : Below w.heap.size w w') : CodeIn w' a len := h.below hb
end Go.Proofs.YtaacofbmbpkeoaaGreatDoor

namespace Go.Proofs.YtaacofbmbpkeoaaGreatDoor
open Go.RowKit
set_option maxRecDepth 1000000
theorem keepH {B k : Nat} {w w' : World} {o : Obj} (hb : Below B w w') (hk : k < B) (h : w.heap[k]? = some o) : w'.heap[k]? = some o := (hb.block k hk).trans h
theorem iIn_no (w : World) (a : Option Addr) (l : List Int) (n cap : Nat) (x : Int) (hn : n = l.length) (hm : n ≤ 9223372036854775807) (hi : Ints w a l) (hx : isE l x = false) :
    Calls Tryz.prog 93 #[.agg #[.slice a n cap], .int .i64 x] w fun e w' => e = .returned (.tuple #[tV 0 0 0, tV 0 0 0, .bool false]) ∧ Below w.heap.size w w' := by
  have HI := Lib.hid (ints_alloc (ints_alloc (ints_alloc hi (.cells #[.slice a n cap] 26)) (.cells #[.int .i64 0, .int .i64 0, .int .i64 0] 41)) (.cells #[.int .i64 0, .int .i64 0, .int .i64 0] 41))
  have HN := Lib.hid hn
  have C1 := keepC (Joins.below_alloc2 _ (.cells #[.int .i64 0, .int .i64 0, .int .i64 0] 41) (.cells #[.int .i64 0, .int .i64 0, .int .i64 0] 41)) (by simp <;> omega) (newC w (.slice a n cap) 26 (n := w.heap.size) rfl)
  have HB := Lib.hid (Joins.below_alloc3 w (.cells #[.slice a n cap] 26) (.cells #[.int .i64 0, .int .i64 0, .int .i64 0] 41) (.cells #[.int .i64 0, .int .i64 0, .int .i64 0] 41))
  have R1 : Hid ((((w.alloc (.cells #[.slice a n cap] 26)).alloc (.cells #[.int .i64 0, .int .i64 0, .int .i64 0] 41)).alloc (.cells #[.int .i64 0, .int .i64 0, .int .i64 0] 41)).heap[w.heap.size + 1]? = some (.cells #[.int .i64 0, .int .i64 0, .int .i64 0] 41 (0, 0))) := Lib.hid (keepH (Joins.below_alloc1 _ _) (by simp <;> omega) (by simpa using heap_alloc_new (w.alloc (.cells #[.slice a n cap] 26)) (.cells #[.int .i64 0, .int .i64 0, .int .i64 0] 41)))
  have R2 : Hid ((((w.alloc (.cells #[.slice a n cap] 26)).alloc (.cells #[.int .i64 0, .int .i64 0, .int .i64 0] 41)).alloc (.cells #[.int .i64 0, .int .i64 0, .int .i64 0] 41)).heap[w.heap.size + 1 + 1]? = some (.cells #[.int .i64 0, .int .i64 0, .int .i64 0] 41 (0, 0))) := Lib.hid (by simpa using heap_alloc_new ((w.alloc (.cells #[.slice a n cap] 26)).alloc (.cells #[.int .i64 0, .int .i64 0, .int .i64 0] 41)) (.cells #[.int .i64 0, .int .i64 0, .int .i64 0] 41))
  have T0 := Lib.hid (Below.refl (((w.alloc (.cells #[.slice a n cap] 26)).alloc (.cells #[.int .i64 0, .int .i64 0, .int .i64 0] 41)).alloc (.cells #[.int .i64 0, .int .i64 0, .int .i64 0] 41)).heap.size (((w.alloc (.cells #[.slice a n cap] 26)).alloc (.cells #[.int .i64 0, .int .i64 0, .int .i64 0] 41)).alloc (.cells #[.int .i64 0, .int .i64 0, .int .i64 0] 41)))
  clear hi hn
  cases hg : grpB l with
  | false =>
    have HG := Lib.hid hg
    clear hg hx
    go_enter Tryz.func93, Tryz.ntmps93
    go_wp2_with (first | (go_at_call 82; refine (iOrders _ _ _ _ _ HN.out hm HI.out).mono ?_; unfold OrdersPost; rw [HG.out]; rintro e w1 ⟨p, q, r, rfl, _, hb1⟩; have T1 := Lib.hid (T0.out.trans (hb1.mono T0.out.size)); have TA := Lib.hid (T1.out.alloc T1.out.size (.cells #[.int .i64 p, .int .i64 q, .int .i64 r] 41)); have c1 := keepC T1.out (by simp <;> omega) C1; obtain ⟨x10, x11, x12, x1f0, x1f1, x1f2⟩ := trip_cell (keepH T1.out (by simp <;> omega) R1.out); obtain ⟨y10, y11, y12, y1f0, y1f1, y1f2⟩ := trip_cell (keepH T1.out (by simp <;> omega) R2.out); have c2 := keepC TA.out (by simp <;> omega) C1; obtain ⟨x20, x21, x22, x2f0, x2f1, x2f2⟩ := trip_cell (keepH TA.out (by simp <;> omega) R1.out); obtain ⟨y20, y21, y22, y2f0, y2f1, y2f2⟩ := trip_cell (keepH TA.out (by simp <;> omega) R2.out)))
    refine bodyPost_ret (v := .tuple #[tV 0 0 0, tV 0 0 0, .bool false]) (by simp [results, Tryz.results93, go_sem, x20, x21, x22, y20, y21, y22]) rfl ⟨rfl, below_set3 (below_set3 (HB.out.trans (TA.out.mono (by simp <;> omega))) (by omega)) (by omega)⟩
  | true =>
    have HG := Lib.hid hg
    have HT := Lib.hid (tri_grp hg)
    have HP := prod_pad (grpB_true hg).1
    have HO := ordN_grp hg
    rw [HP] at HO
    obtain ⟨p, EP⟩ : ∃ p, Hid (l.getD 0 1 = p) := ⟨_, Lib.hid rfl⟩
    obtain ⟨q, EQ⟩ : ∃ q, Hid (l.getD 1 1 = q) := ⟨_, Lib.hid rfl⟩
    obtain ⟨r, ER⟩ : ∃ r, Hid (l.getD 2 1 = r) := ⟨_, Lib.hid rfl⟩
    rw [EP.out, EQ.out, ER.out] at HT HO
    have hor : x < 0 ∨ (0 ≤ x ∧ p * q * r ≤ x) := by
      simp only [isE, HO, Bool.and_eq_false_iff, decide_eq_false_iff_not] at hx
      omega
    clear hg hx HP HO
    rcases hor with h | ⟨h, h2⟩
    · go_enter Tryz.func93, Tryz.ntmps93
      go_wp2_with (first
        | (go_at_call 82; refine (iOrders _ _ _ _ _ HN.out hm HI.out).mono ?_; unfold OrdersPost; rw [HG.out]; rintro e w1 ⟨p', q', r', rfl, hpqr, hb1⟩; obtain ⟨e1, e2, e3⟩ := hpqr rfl; clear hpqr; rw [EP.out] at e1; rw [EQ.out] at e2; rw [ER.out] at e3; subst e1 e2 e3; have T1 := Lib.hid (T0.out.trans (hb1.mono T0.out.size)); have TA := Lib.hid (T1.out.alloc T1.out.size (.cells #[.int .i64 p', .int .i64 q', .int .i64 r'] 41)); have c1 := keepC T1.out (by simp <;> omega) C1; obtain ⟨x10, x11, x12, x1f0, x1f1, x1f2⟩ := trip_cell (keepH T1.out (by simp <;> omega) R1.out); obtain ⟨y10, y11, y12, y1f0, y1f1, y1f2⟩ := trip_cell (keepH T1.out (by simp <;> omega) R2.out); have c2 := keepC TA.out (by simp <;> omega) C1; obtain ⟨x20, x21, x22, x2f0, x2f1, x2f2⟩ := trip_cell (keepH TA.out (by simp <;> omega) R1.out); obtain ⟨y20, y21, y22, y2f0, y2f1, y2f2⟩ := trip_cell (keepH TA.out (by simp <;> omega) R2.out); have R7 := Lib.hid (heap_alloc_new w1 (.cells #[.int .i64 p', .int .i64 q', .int .i64 r'] 41))))
      refine bodyPost_ret (v := .tuple #[tV 0 0 0, tV 0 0 0, .bool false]) (by simp [results, Tryz.results93, go_sem, x20, x21, x22, y20, y21, y22]) rfl ⟨rfl, below_set3 (below_set3 (HB.out.trans (TA.out.mono (by simp <;> omega))) (by omega)) (by omega)⟩
    · go_enter Tryz.func93, Tryz.ntmps93
      go_wp2_with (first
        | (go_at_call 59; refine (iProduct _ _ _ _ HT.out).mono ?_; rintro e w2 ⟨rfl, hb2⟩; have T2 := Lib.hid (TA.out.trans (hb2.mono TA.out.size)); have c3 := keepC T2.out (by simp <;> omega) C1; obtain ⟨x30, x31, x32, x3f0, x3f1, x3f2⟩ := trip_cell (keepH T2.out (by simp <;> omega) R1.out); obtain ⟨y30, y31, y32, y3f0, y3f1, y3f2⟩ := trip_cell (keepH T2.out (by simp <;> omega) R2.out); obtain ⟨z30, z31, z32, z3f0, z3f1, z3f2⟩ := trip_cell (keepH hb2 (by simp <;> omega) R7.out))
        | (go_at_call 82; refine (iOrders _ _ _ _ _ HN.out hm HI.out).mono ?_; unfold OrdersPost; rw [HG.out]; rintro e w1 ⟨p', q', r', rfl, hpqr, hb1⟩; obtain ⟨e1, e2, e3⟩ := hpqr rfl; clear hpqr; rw [EP.out] at e1; rw [EQ.out] at e2; rw [ER.out] at e3; subst e1 e2 e3; have T1 := Lib.hid (T0.out.trans (hb1.mono T0.out.size)); have TA := Lib.hid (T1.out.alloc T1.out.size (.cells #[.int .i64 p', .int .i64 q', .int .i64 r'] 41)); have c1 := keepC T1.out (by simp <;> omega) C1; obtain ⟨x10, x11, x12, x1f0, x1f1, x1f2⟩ := trip_cell (keepH T1.out (by simp <;> omega) R1.out); obtain ⟨y10, y11, y12, y1f0, y1f1, y1f2⟩ := trip_cell (keepH T1.out (by simp <;> omega) R2.out); have c2 := keepC TA.out (by simp <;> omega) C1; obtain ⟨x20, x21, x22, x2f0, x2f1, x2f2⟩ := trip_cell (keepH TA.out (by simp <;> omega) R1.out); obtain ⟨y20, y21, y22, y2f0, y2f1, y2f2⟩ := trip_cell (keepH TA.out (by simp <;> omega) R2.out); have R7 := Lib.hid (heap_alloc_new w1 (.cells #[.int .i64 p', .int .i64 q', .int .i64 r'] 41))))
      refine bodyPost_ret (v := .tuple #[tV 0 0 0, tV 0 0 0, .bool false]) (by simp [results, Tryz.results93, go_sem, x30, x31, x32, y30, y31, y32]) rfl ⟨rfl, below_set3 (below_set3 (HB.out.trans (T2.out.mono (by simp <;> omega))) (by omega)) (by omega)⟩
set_option maxHeartbeats 1000000 in
theorem iIn_yes (w : World) (a : Option Addr) (l : List Int) (n cap : Nat) (x : Int) (hn : n = l.length) (hm : n ≤ 9223372036854775807) (hi : Ints w a l) (hx : isE l x = true) :
    Calls Tryz.prog 93 #[.agg #[.slice a n cap], .int .i64 x] w fun e w' => e = .returned (.tuple #[tV (l.getD 0 1) (l.getD 1 1) (l.getD 2 1), tV (x % l.getD 0 1) (x / l.getD 0 1 % l.getD 1 1) (x / l.getD 0 1 / l.getD 1 1 % l.getD 2 1), .bool true]) ∧ Below w.heap.size w w' := by
  have HI := Lib.hid (ints_alloc (ints_alloc (ints_alloc hi (.cells #[.slice a n cap] 26)) (.cells #[.int .i64 0, .int .i64 0, .int .i64 0] 41)) (.cells #[.int .i64 0, .int .i64 0, .int .i64 0] 41))
  have HN := Lib.hid hn
  have C1 := keepC (Joins.below_alloc2 _ (.cells #[.int .i64 0, .int .i64 0, .int .i64 0] 41) (.cells #[.int .i64 0, .int .i64 0, .int .i64 0] 41)) (by simp <;> omega) (newC w (.slice a n cap) 26 (n := w.heap.size) rfl)
  have HB := Lib.hid (Joins.below_alloc3 w (.cells #[.slice a n cap] 26) (.cells #[.int .i64 0, .int .i64 0, .int .i64 0] 41) (.cells #[.int .i64 0, .int .i64 0, .int .i64 0] 41))
  have R1 : Hid ((((w.alloc (.cells #[.slice a n cap] 26)).alloc (.cells #[.int .i64 0, .int .i64 0, .int .i64 0] 41)).alloc (.cells #[.int .i64 0, .int .i64 0, .int .i64 0] 41)).heap[w.heap.size + 1]? = some (.cells #[.int .i64 0, .int .i64 0, .int .i64 0] 41 (0, 0))) := Lib.hid (keepH (Joins.below_alloc1 _ _) (by simp <;> omega) (by simpa using heap_alloc_new (w.alloc (.cells #[.slice a n cap] 26)) (.cells #[.int .i64 0, .int .i64 0, .int .i64 0] 41)))
  have R2 : Hid ((((w.alloc (.cells #[.slice a n cap] 26)).alloc (.cells #[.int .i64 0, .int .i64 0, .int .i64 0] 41)).alloc (.cells #[.int .i64 0, .int .i64 0, .int .i64 0] 41)).heap[w.heap.size + 1 + 1]? = some (.cells #[.int .i64 0, .int .i64 0, .int .i64 0] 41 (0, 0))) := Lib.hid (by simpa using heap_alloc_new ((w.alloc (.cells #[.slice a n cap] 26)).alloc (.cells #[.int .i64 0, .int .i64 0, .int .i64 0] 41)) (.cells #[.int .i64 0, .int .i64 0, .int .i64 0] 41))
  have T0 := Lib.hid (Below.refl (((w.alloc (.cells #[.slice a n cap] 26)).alloc (.cells #[.int .i64 0, .int .i64 0, .int .i64 0] 41)).alloc (.cells #[.int .i64 0, .int .i64 0, .int .i64 0] 41)).heap.size (((w.alloc (.cells #[.slice a n cap] 26)).alloc (.cells #[.int .i64 0, .int .i64 0, .int .i64 0] 41)).alloc (.cells #[.int .i64 0, .int .i64 0, .int .i64 0] 41)))
  clear hi hn
  obtain ⟨hg, hx0, hxN, hx23⟩ := isE_true hx
  have HG := Lib.hid hg
  have HT := Lib.hid (tri_grp hg)
  have HP := prod_pad (grpB_true hg).1
  rw [HP] at hxN
  obtain ⟨p, EP⟩ : ∃ p, Hid (l.getD 0 1 = p) := ⟨_, Lib.hid rfl⟩
  obtain ⟨q, EQ⟩ : ∃ q, Hid (l.getD 1 1 = q) := ⟨_, Lib.hid rfl⟩
  obtain ⟨r, ER⟩ : ∃ r, Hid (l.getD 2 1 = r) := ⟨_, Lib.hid rfl⟩
  rw [EP.out, EQ.out, ER.out] at HT hxN
  rw [EP.out, EQ.out, ER.out]
  clear hg hx HP
  go_enter Tryz.func93, Tryz.ntmps93
  go_wp2_with (first
    | (go_at_call 59; refine (iProduct _ _ _ _ HT.out).mono ?_; rintro e w2 ⟨rfl, hb2⟩; have T2 := Lib.hid (TA.out.trans (hb2.mono TA.out.size)); have c3 := keepC T2.out (by simp <;> omega) C1; obtain ⟨x30, x31, x32, x3f0, x3f1, x3f2⟩ := trip_cell (keepH T2.out (by simp <;> omega) R1.out); obtain ⟨y30, y31, y32, y3f0, y3f1, y3f2⟩ := trip_cell (keepH T2.out (by simp <;> omega) R2.out); obtain ⟨z30, z31, z32, z3f0, z3f1, z3f2⟩ := trip_cell (keepH hb2 (by simp <;> omega) R7.out))
    | (go_at_call 82; refine (iOrders _ _ _ _ _ HN.out hm HI.out).mono ?_; unfold OrdersPost; rw [HG.out]; rintro e w1 ⟨p', q', r', rfl, hpqr, hb1⟩; obtain ⟨e1, e2, e3⟩ := hpqr rfl; clear hpqr; rw [EP.out] at e1; rw [EQ.out] at e2; rw [ER.out] at e3; subst e1 e2 e3; have T1 := Lib.hid (T0.out.trans (hb1.mono T0.out.size)); have TA := Lib.hid (T1.out.alloc T1.out.size (.cells #[.int .i64 p', .int .i64 q', .int .i64 r'] 41)); have c1 := keepC T1.out (by simp <;> omega) C1; obtain ⟨x10, x11, x12, x1f0, x1f1, x1f2⟩ := trip_cell (keepH T1.out (by simp <;> omega) R1.out); obtain ⟨y10, y11, y12, y1f0, y1f1, y1f2⟩ := trip_cell (keepH T1.out (by simp <;> omega) R2.out); have c2 := keepC TA.out (by simp <;> omega) C1; obtain ⟨x20, x21, x22, x2f0, x2f1, x2f2⟩ := trip_cell (keepH TA.out (by simp <;> omega) R1.out); obtain ⟨y20, y21, y22, y2f0, y2f1, y2f2⟩ := trip_cell (keepH TA.out (by simp <;> omega) R2.out); have R7 := Lib.hid (heap_alloc_new w1 (.cells #[.int .i64 p', .int .i64 q', .int .i64 r'] 41))))
  go_region_with (first | (go_at_call 85; refine (iPlaces _ _ _ _ _ HT.out hx0 hx23).mono ?_; rintro e w3 ⟨rfl, hb3⟩; have T3 := Lib.hid (T2.out.drew.trans (hb3.mono T2.out.size)); have c4 := keepC T3.out (by simp <;> omega) C1; obtain ⟨x40, x41, x42, x4f0, x4f1, x4f2⟩ := trip_cell (keepH T3.out (by simp <;> omega) R1.out); obtain ⟨y40, y41, y42, y4f0, y4f1, y4f2⟩ := trip_cell (keepH T3.out (by simp <;> omega) R2.out); obtain ⟨z40, z41, z42, z4f0, z4f1, z4f2⟩ := trip_cell (keepH (hb2.drew.trans (hb3.mono hb2.size)) (by simp <;> omega) R7.out)))
  all_goals
    go_wp2
    refine bodyPost_ret (v := .tuple #[tV p' q' r', tV (x % p') (x / p' % q') (x / p' / q' % r'), .bool true]) (by simp [results, Tryz.results93, go_sem, x40, x41, x42, y40, y41, y42]) rfl ⟨rfl, below_set3 (below_set3 (HB.out.trans (T3.out.mono (by simp <;> omega))) (by omega)) (by omega)⟩
end Go.Proofs.YtaacofbmbpkeoaaGreatDoor
