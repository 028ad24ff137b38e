/- Merged: GenK QT KnLawAx. -/
import Derived.Test.YtaacofbmbpkeoaaGreatDoorMGAX
import Derived.Test.YtaacofbmbpkeoaaGreatDoorMGAU
import Derived.Test.YtaacofbmbpkeoaaGreatDoorMGAS
import Derived.Test.YtaacofbmbpkeoaaGreatDoorMGAR
import Derived.Test.YtaacofbmbpkeoaaGreatDoorSumT
import Derived.Test.YtaacofbmbpkeoaaGreatDoorMGAQ
import Derived.Test.YtaacofbmbpkeoaaGreatDoorMGAE
namespace Go.Proofs.YtaacofbmbpkeoaaGreatDoor
open Go.RowKit Go.Shelf
attribute [local go_sem] Oper.semAt_some
set_option maxRecDepth 1000000
theorem sgB_is {l : List Int} {s : Int} (h : sgB l s = true) : isS l s = true := by
  unfold sgB at h
  exact (Bool.and_eq_true_iff.1 h).1
set_option maxHeartbeats 1000000 in
theorem iSgIn_no (w : World) (a : Option Addr) (l : List Int) (n cap : Nat) (s : Int) (hn : n = l.length) (hm : n ≤ 9223372036854775807) (hi : Ints w a l) (B : Nat) (hB0 : B ≤ w.heap.size) (ht : TabZ B w) (h : sgB l s = false) :
    Calls Tryz.prog 53 #[.agg #[.slice a n cap], .int .i64 s] w fun e w' => e = .returned (.tuple #[tV 0 0 0, .int .u64 0, .bool false]) ∧ Below w.heap.size w w' := by
  have HTZ := Lib.hid ht
  clear ht
  have HI := Lib.hid (ints_alloc (ints_alloc hi (.cells #[.slice a n cap] 26)) (.cells #[.int .i64 0, .int .i64 0, .int .i64 0] 41))
  have HN := Lib.hid hn
  have C1 := keepC (Joins.below_alloc1 _ (.cells #[.int .i64 0, .int .i64 0, .int .i64 0] 41)) (by simp <;> omega) (newC w (.slice a n cap) 26 (n := w.heap.size) rfl)
  have HB := Lib.hid (Joins.below_alloc2 w (.cells #[.slice a n cap] 26) (.cells #[.int .i64 0, .int .i64 0, .int .i64 0] 41))
  have R1 : Hid (((w.alloc (.cells #[.slice a n cap] 26)).alloc (.cells #[.int .i64 0, .int .i64 0, .int .i64 0] 41)).heap[w.heap.size + 1]? = some (.cells #[.int .i64 0, .int .i64 0, .int .i64 0] 41 (0, 0))) := Lib.hid (by simpa using heap_alloc_new (w.alloc (.cells #[.slice a n cap] 26)) (.cells #[.int .i64 0, .int .i64 0, .int .i64 0] 41))
  have T0 := Lib.hid (Below.refl ((w.alloc (.cells #[.slice a n cap] 26)).alloc (.cells #[.int .i64 0, .int .i64 0, .int .i64 0] 41)).heap.size ((w.alloc (.cells #[.slice a n cap] 26)).alloc (.cells #[.int .i64 0, .int .i64 0, .int .i64 0] 41)))
  clear hi hn
  cases hs : isS l s with
  | false =>
    have HS := Lib.hid hs
    clear hs h
    go_enter Tryz.func53, Tryz.ntmps53
    go_wp2_with ((go_at_call 54; refine (iSetIn_no _ _ _ _ _ _ HN.out hm (HI.out.below rfl T0.out) HS.out).mono ?_; rintro e w1 ⟨rfl, hb1⟩; have S1 := Lib.hid (T0.out.trans (hb1.mono T0.out.size)); have T1 := Lib.hid (S1.out.alloc S1.out.size (.cells #[.int .i64 0, .int .i64 0, .int .i64 0] 41)); have R7 := Lib.hid (heap_alloc_new w1 (.cells #[.int .i64 0, .int .i64 0, .int .i64 0] 41)); obtain ⟨x10, x11, x12, x1f0, x1f1, x1f2⟩ := trip_cell (keepH T1.out (by simp <;> omega) R1.out); obtain ⟨y10, y11, y12, _, _, _⟩ := trip_cell R7.out))
    refine bodyPost_ret (v := .tuple #[tV 0 0 0, .int .u64 0, .bool false]) (by simp [results, Tryz.results53, go_sem, x10, x11, x12]) rfl ⟨rfl, below_set3 (HB.out.trans (T1.out.mono (by simp <;> omega))) (by omega)⟩
  | true =>
    have HS := Lib.hid hs
    obtain ⟨hg, s, rfl, hsn, hs24⟩ := isS_true hs
    obtain ⟨c, hc⟩ := clo_ex hg hs24
    have hne : ((c : Int) == (s : Int)) = false := by rw [← sgB_clo hs hc]; exact h
    have HGEN := Lib.hid (fun (W : World) (h1 : B ≤ W.heap.size) (h2 : TabZ B W) => iGenerated hg W s c hsn hc B h1 h2)
    obtain ⟨p, EP⟩ : ∃ p, Hid (l.getD 0 1 = p) := ⟨_, Lib.hid rfl⟩
    obtain ⟨q, EQ⟩ : ∃ q, Hid (l.getD 1 1 = q) := ⟨_, Lib.hid rfl⟩
    obtain ⟨r, ER⟩ : ∃ r, Hid (l.getD 2 1 = r) := ⟨_, Lib.hid rfl⟩
    rw [EP.out, EQ.out, ER.out] at HGEN
    clear hs hsn hc hg h
    go_enter Tryz.func53, Tryz.ntmps53
    go_wp2_with (first
      | (go_at_call 81; refine (HGEN.out _ (Nat.le_trans hB0 (Nat.le_trans (by simp <;> omega) T1.out.size)) (HTZ.out.on ((HB.out.trans (T1.out.mono (by simp <;> omega))).mono hB0))).mono ?_; rintro e w2 ⟨rfl, hb2⟩; have T2 := Lib.hid (T1.out.trans (hb2.mono T1.out.size)); obtain ⟨x20, x21, x22, x2f0, x2f1, x2f2⟩ := trip_cell (keepH T2.out (by simp <;> omega) R1.out); obtain ⟨y20, y21, y22, _, _, _⟩ := trip_cell (keepH hb2 (by simp) R7.out))
      | (go_at_call 54; refine (iSetIn_yes _ _ _ _ _ _ HN.out hm (HI.out.below rfl T0.out) HS.out).mono ?_; rw [EP.out, EQ.out, ER.out]; rintro e w1 ⟨rfl, hb1⟩; have S1 := Lib.hid (T0.out.trans (hb1.mono T0.out.size)); have T1 := Lib.hid (S1.out.alloc S1.out.size (.cells #[.int .i64 p, .int .i64 q, .int .i64 r] 41)); have R7 := Lib.hid (heap_alloc_new w1 (.cells #[.int .i64 p, .int .i64 q, .int .i64 r] 41)); obtain ⟨x10, x11, x12, x1f0, x1f1, x1f2⟩ := trip_cell (keepH T1.out (by simp <;> omega) R1.out); obtain ⟨y10, y11, y12, _, _, _⟩ := trip_cell R7.out))
    refine bodyPost_ret (v := .tuple #[tV 0 0 0, .int .u64 0, .bool false]) (by simp [results, Tryz.results53, go_sem, x20, x21, x22]) rfl ⟨rfl, below_set3 (HB.out.trans (T2.out.mono (by simp <;> omega))) (by omega)⟩
set_option maxHeartbeats 1000000 in
theorem iSgIn_yes (w : World) (a : Option Addr) (l : List Int) (n cap : Nat) (s : Int) (hn : n = l.length) (hm : n ≤ 9223372036854775807) (hi : Ints w a l) (B : Nat) (hB0 : B ≤ w.heap.size) (ht : TabZ B w) (h : sgB l s = true) :
    Calls Tryz.prog 53 #[.agg #[.slice a n cap], .int .i64 s] w fun e w' => e = .returned (.tuple #[tV (l.getD 0 1) (l.getD 1 1) (l.getD 2 1), .int .u64 s, .bool true]) ∧ Below w.heap.size w w' := by
  have HTZ := Lib.hid ht
  clear ht
  have HI := Lib.hid (ints_alloc (ints_alloc hi (.cells #[.slice a n cap] 26)) (.cells #[.int .i64 0, .int .i64 0, .int .i64 0] 41))
  have HN := Lib.hid hn
  have C1 := keepC (Joins.below_alloc1 _ (.cells #[.int .i64 0, .int .i64 0, .int .i64 0] 41)) (by simp <;> omega) (newC w (.slice a n cap) 26 (n := w.heap.size) rfl)
  have HB := Lib.hid (Joins.below_alloc2 w (.cells #[.slice a n cap] 26) (.cells #[.int .i64 0, .int .i64 0, .int .i64 0] 41))
  have R1 : Hid (((w.alloc (.cells #[.slice a n cap] 26)).alloc (.cells #[.int .i64 0, .int .i64 0, .int .i64 0] 41)).heap[w.heap.size + 1]? = some (.cells #[.int .i64 0, .int .i64 0, .int .i64 0] 41 (0, 0))) := Lib.hid (by simpa using heap_alloc_new (w.alloc (.cells #[.slice a n cap] 26)) (.cells #[.int .i64 0, .int .i64 0, .int .i64 0] 41))
  have T0 := Lib.hid (Below.refl ((w.alloc (.cells #[.slice a n cap] 26)).alloc (.cells #[.int .i64 0, .int .i64 0, .int .i64 0] 41)).heap.size ((w.alloc (.cells #[.slice a n cap] 26)).alloc (.cells #[.int .i64 0, .int .i64 0, .int .i64 0] 41)))
  clear hi hn
  have hs := sgB_is h
  have HS := Lib.hid hs
  obtain ⟨hg, s, rfl, hsn, hs24⟩ := isS_true hs
  obtain ⟨c, hc⟩ := clo_ex hg hs24
  obtain rfl : c = s := by
    have : ((c : Int) == (s : Int)) = true := by rw [← sgB_clo hs hc]; exact h
    rw [beq_iff_eq] at this; omega
  have HGEN := Lib.hid (fun (W : World) (h1 : B ≤ W.heap.size) (h2 : TabZ B W) => iGenerated hg W c c hsn hc B h1 h2)
  obtain ⟨p, EP⟩ : ∃ p, Hid (l.getD 0 1 = p) := ⟨_, Lib.hid rfl⟩
  obtain ⟨q, EQ⟩ : ∃ q, Hid (l.getD 1 1 = q) := ⟨_, Lib.hid rfl⟩
  obtain ⟨r, ER⟩ : ∃ r, Hid (l.getD 2 1 = r) := ⟨_, Lib.hid rfl⟩
  rw [EP.out, EQ.out, ER.out] at HGEN
  rw [EP.out, EQ.out, ER.out]
  clear hs hsn hc hg h
  go_enter Tryz.func53, Tryz.ntmps53
  go_wp2_with (first
    | (go_at_call 81; refine (HGEN.out _ (Nat.le_trans hB0 (Nat.le_trans (by simp <;> omega) T1.out.size)) (HTZ.out.on ((HB.out.trans (T1.out.mono (by simp <;> omega))).mono hB0))).mono ?_; rintro e w2 ⟨rfl, hb2⟩; have T2 := Lib.hid (T1.out.trans (hb2.mono T1.out.size)); obtain ⟨x20, x21, x22, x2f0, x2f1, x2f2⟩ := trip_cell (keepH T2.out (by simp <;> omega) R1.out); obtain ⟨y20, y21, y22, _, _, _⟩ := trip_cell (keepH hb2 (by simp) R7.out))
    | (go_at_call 54; refine (iSetIn_yes _ _ _ _ _ _ HN.out hm (HI.out.below rfl T0.out) HS.out).mono ?_; rw [EP.out, EQ.out, ER.out]; rintro e w1 ⟨rfl, hb1⟩; have S1 := Lib.hid (T0.out.trans (hb1.mono T0.out.size)); have T1 := Lib.hid (S1.out.alloc S1.out.size (.cells #[.int .i64 p, .int .i64 q, .int .i64 r] 41)); have R7 := Lib.hid (heap_alloc_new w1 (.cells #[.int .i64 p, .int .i64 q, .int .i64 r] 41)); obtain ⟨x10, x11, x12, x1f0, x1f1, x1f2⟩ := trip_cell (keepH T1.out (by simp <;> omega) R1.out); obtain ⟨y10, y11, y12, _, _, _⟩ := trip_cell R7.out))
  refine bodyPost_ret (v := .tuple #[tV p q r, .int .u64 c, .bool true]) (by simp [results, Tryz.results53, go_sem, x20, x21, x22]) rfl ⟨rfl, below_set3 (HB.out.trans (T2.out.mono (by simp <;> omega))) (by omega)⟩
set_option maxHeartbeats 1000000 in
theorem iIsSub (w : World) (a : Option Addr) (l : List Int) (n cap : Nat) (s : Int) (hn : n = l.length) (hm : n ≤ 9223372036854775807) (hi : Ints w a l) (B : Nat) (hB0 : B ≤ w.heap.size) (ht : TabZ B w) :
    Calls Tryz.prog 16 #[.agg #[.slice a n cap], .int .i64 s] w fun e w' => e = .returned (.bool (sgB l s)) ∧ Below w.heap.size w w' := by
  have HTZ := Lib.hid ht
  clear ht
  have HI := Lib.hid (ints_alloc hi (.cells #[.slice a n cap] 26))
  have HN := Lib.hid hn
  have C1 := newC w (.slice a n cap) 26 (n := w.heap.size) rfl
  have HB := Lib.hid (Joins.below_alloc1 w (.cells #[.slice a n cap] 26))
  have T0 := Lib.hid (Below.refl (w.alloc (.cells #[.slice a n cap] 26)).heap.size (w.alloc (.cells #[.slice a n cap] 26)))
  clear hi hn
  have HA := Lib.hid (HB.out.mono hB0)
  cases hs : sgB l s with
  | false =>
    have HS := Lib.hid hs
    clear hs
    go_enter Tryz.func16, Tryz.ntmps16
    go_wp2_with ((go_at_call 53; refine (iSgIn_no _ _ _ _ _ _ HN.out hm (HI.out.below rfl T0.out) B (Nat.le_trans hB0 (by simp)) (HTZ.out.on (HB.out.mono hB0)) HS.out).mono ?_; rintro e w1 ⟨rfl, hb1⟩; have TA := Lib.hid ((HB.out.trans (hb1.mono (by simp))).alloc (Nat.le_trans (by simp) hb1.size) (.cells #[.int .i64 0, .int .i64 0, .int .i64 0] 41)); obtain ⟨y0, y1, y2, _, _, _⟩ := trip_cell (heap_alloc_new w1 (.cells #[.int .i64 0, .int .i64 0, .int .i64 0] 41))))
    go_ret
    exact ⟨rfl, by first | exact TA.out | exact HB.out.trans (hb1.mono (by simp))⟩
  | true =>
    have HS := Lib.hid hs
    obtain ⟨p, EP⟩ : ∃ p, Hid (l.getD 0 1 = p) := ⟨_, Lib.hid rfl⟩
    obtain ⟨q, EQ⟩ : ∃ q, Hid (l.getD 1 1 = q) := ⟨_, Lib.hid rfl⟩
    obtain ⟨r, ER⟩ : ∃ r, Hid (l.getD 2 1 = r) := ⟨_, Lib.hid rfl⟩
    clear hs
    go_enter Tryz.func16, Tryz.ntmps16
    go_wp2_with ((go_at_call 53; refine (iSgIn_yes _ _ _ _ _ _ HN.out hm (HI.out.below rfl T0.out) B (Nat.le_trans hB0 (by simp)) (HTZ.out.on (HB.out.mono hB0)) HS.out).mono ?_; rw [EP.out, EQ.out, ER.out]; rintro e w1 ⟨rfl, hb1⟩; have TA := Lib.hid ((HB.out.trans (hb1.mono (by simp))).alloc (Nat.le_trans (by simp) hb1.size) (.cells #[.int .i64 p, .int .i64 q, .int .i64 r] 41)); obtain ⟨y0, y1, y2, _, _, _⟩ := trip_cell (heap_alloc_new w1 (.cells #[.int .i64 p, .int .i64 q, .int .i64 r] 41))))
    go_ret
    exact ⟨rfl, by first | exact TA.out | exact HB.out.trans (hb1.mono (by simp))⟩
end Go.Proofs.YtaacofbmbpkeoaaGreatDoor

namespace Go.Proofs.YtaacofbmbpkeoaaGreatDoor
open Go.RowKit
theorem qiSum {W0 W : World} {au : Option Addr} {cu : Nat} {l : List Int} {x y : Int} {B : Nat} (hi : Ints W0 au l) (hl : l.length ≤ 4) (hB : B ≤ W0.heap.size) (ht : TabZ B W0) (o : On W0 W) :
    Calls Tryz.prog 7 #[.agg #[.slice au l.length cu], .int .i64 x, .int .i64 y] W fun e w' => e = .returned (.int .i64 (sumE l x y)) ∧ On W0 w' :=
  (iSumS W au l _ cu x y rfl (by omega) (o.ints hi) B (Nat.le_trans hB (Below.size o)) (o.tab hB ht)).mono fun _ _ h => ⟨h.1, o.step h.2⟩
theorem qiSta {W0 W : World} {au : Option Addr} {cu : Nat} {l : List Int} {x : Int} (hi : Ints W0 au l) (hl : l.length ≤ 4) (o : On W0 W) :
    Calls Tryz.prog 17 #[.agg #[.slice au l.length cu], .int .i64 x] W fun e w' => e = .returned (.int .i64 (stE l x)) ∧ On W0 w' :=
  (iStab W au l _ cu x rfl (by omega) (o.ints hi)).mono fun _ _ h => ⟨h.1, o.step h.2⟩
theorem qiPer {W0 W : World} {au : Option Addr} {cu : Nat} {l : List Int} {x : Int} (hi : Ints W0 au l) (hl : l.length ≤ 4) (o : On W0 W) :
    Calls Tryz.prog 21 #[.agg #[.slice au l.length cu], .int .i64 x] W fun e w' => e = .returned (.bool (perB l x)) ∧ On W0 w' :=
  (iPer W au l _ cu x rfl (by omega) (o.ints hi)).mono fun _ _ h => ⟨h.1, o.step h.2⟩
theorem qiSgp {W0 W : World} {au : Option Addr} {cu : Nat} {l : List Int} {x : Int} {B : Nat} (hi : Ints W0 au l) (hl : l.length ≤ 4) (hB : B ≤ W0.heap.size) (ht : TabZ B W0) (o : On W0 W) :
    Calls Tryz.prog 16 #[.agg #[.slice au l.length cu], .int .i64 x] W fun e w' => e = .returned (.bool (sgB l x)) ∧ On W0 w' :=
  (iIsSub W au l _ cu x rfl (by omega) (o.ints hi) B (Nat.le_trans hB (Below.size o)) (o.tab hB ht)).mono fun _ _ h => ⟨h.1, o.step h.2⟩
theorem qiCntS {W0 W : World} {au : Option Addr} {cu : Nat} {l : List Int} {x y z : Int} {B : Nat} (hi : Ints W0 au l) (hl : l.length ≤ 4) (hB : B ≤ W0.heap.size) (ht : TabZ B W0) (o : On W0 W) :
    Calls Tryz.prog 23 #[.agg #[.slice au l.length cu], .int .i64 x, .int .i64 y, .int .i64 z] W fun e w' => e = .returned (.int .i64 (cntS l x y z)) ∧ On W0 w' :=
  (iCntS W au l _ cu x y z rfl (by omega) (o.ints hi) B (Nat.le_trans hB (Below.size o)) (o.tab hB ht)).mono fun _ _ h => ⟨h.1, o.step h.2⟩
theorem qsTab {W0 W : World} {au : Option Addr} {cu : Nat} {l : List Int} {x y : Int} (hi : Ints W0 au l) (hl : l.length ≤ 4) (o : On W0 W) :
    Calls Tryz.prog 11 #[.agg #[.slice au l.length cu], .int .i64 x, .int .i64 y] W fun e w' => ∃ (a2 : Option Addr) (c2 : Nat), e = .returned (.slice a2 (tabE l x y).length c2) ∧ Ints w' a2 (tabE l x y) ∧ On W0 w' :=
  (sTab W au l _ cu x y rfl (by omega) (o.ints hi)).mono fun _ _ ⟨v, h1, h2, h3⟩ => by
    obtain ⟨a2, c2, rfl⟩ := own_slice h2
    exact ⟨a2, c2, h1, own_ints h2, o.step h3⟩
theorem qiTab {W0 W : World} {au : Option Addr} {cu : Nat} {l : List Int} {x y : Int} {B : Nat} (hi : Ints W0 au l) (hl : l.length ≤ 4) (hB : B ≤ W0.heap.size) (ht : TabZ B W0) (o : On W0 W) :
    Calls Tryz.prog 8 #[.agg #[.slice au l.length cu], .int .i64 x, .int .i64 y] W fun e w' => ∃ (a2 : Option Addr) (c2 : Nat), e = .returned (.slice a2 (tabE l x y).length c2) ∧ Ints w' a2 (tabE l x y) ∧ On W0 w' :=
  (iTab W au l _ cu x y rfl (by omega) (o.ints hi) B (Nat.le_trans hB (Below.size o)) (o.tab hB ht)).mono fun _ _ ⟨v, h1, h2, h3⟩ => by
    obtain ⟨a2, c2, rfl⟩ := own_slice h2
    exact ⟨a2, c2, h1, own_ints h2, o.step h3⟩
end Go.Proofs.YtaacofbmbpkeoaaGreatDoor

namespace Go.Proofs.YtaacofbmbpkeoaaGreatDoor
theorem two_sum {l : List Int} {a b : Int} (h : two l a b = true) : sumE l a b = ((sumN l a.toNat b.toNat : Nat) : Int) ∧ isS l a = true ∧ isS l b = true ∧ isS l (sumE l a b) = true ∧ cntE l (sumE l a b) = ((bitsN (sumN l a.toNat b.toNat)).length : Int) := by
  have e : sumE l a b = ((sumN l a.toNat b.toNat : Nat) : Int) := by unfold sumE; rw [if_pos h]
  have h3 := h
  unfold two at h3
  rw [Bool.and_eq_true] at h3
  obtain ⟨hg, m, rfl, hm, _⟩ := isS_true h3.1
  have hs := isS_of hg (sumN_lt hg (m : Int).toNat b.toNat)
  rw [e]
  refine ⟨rfl, h3.1, h3.2, hs, ?_⟩
  unfold cntE
  rw [if_pos hs, Int.toNat_natCast]
theorem ne_two {l : List Int} {a b : Int} (h : neB l a b = true) : two l a b = true := by
  unfold neB at h
  exact (Bool.and_eq_true_iff.1 h).1
theorem cau_law {l : List Int} {a b : Int} (h : 0 ≤ cauE l a b) : cauE l a b ≤ cntE l (sumE l a b) := by
  obtain ⟨h1, h2⟩ := cau_ok h
  rw [(two_sum (ne_two h1)).2.2.2.2]
  exact h2
theorem cnt_set {l : List Int} {a : Int} (h : isS l a = true) : cntE l a = ((bitsN a.toNat).length : Int) ∧ 0 ≤ cntE l a ∧ cntE l a ≤ 24 := by
  have e : cntE l a = ((bitsN a.toNat).length : Int) := by unfold cntE; rw [if_pos h]
  have := bits_le a.toNat
  rw [e]
  exact ⟨rfl, by omega, by omega⟩
theorem cho_law {l : List Int} {a b : Int} (h : choB l a b = true) : 0 ≤ cntE l a ∧ cntE l a ≤ 24 ∧ 0 ≤ cntE l b ∧ cntE l b ≤ 24 ∧ (ordN l ≤ cntE l (sumE l a b) ∨ cntE l a + cntE l b - 1 ≤ cntE l (sumE l a b)) := by
  obtain ⟨h1, h2⟩ := cho_ok h
  obtain ⟨_, ha, hb, _, e⟩ := two_sum h1
  obtain ⟨e1, b1, b2⟩ := cnt_set ha
  obtain ⟨e2, b3, b4⟩ := cnt_set hb
  refine ⟨b1, b2, b3, b4, ?_⟩
  rw [e, e1, e2, ordN_grp (isS_true ha).1]
  exact h2
end Go.Proofs.YtaacofbmbpkeoaaGreatDoor
