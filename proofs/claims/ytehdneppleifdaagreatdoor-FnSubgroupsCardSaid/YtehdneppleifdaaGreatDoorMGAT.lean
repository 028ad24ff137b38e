/- Merged: HullI QG5. -/
import Derived.Test.YtehdneppleifdaaGreatDoorGenK
import Derived.Test.YtehdneppleifdaaGreatDoorMGAG
import Derived.Test.YtehdneppleifdaaGreatDoorMGAS
import Derived.Test.YtehdneppleifdaaGreatDoorCosJ
namespace Go.Proofs.YtehdneppleifdaaGreatDoor
open Go.RowKit Go.Shelf
attribute [local go_sem] Oper.semAt_some
set_option maxRecDepth 1000000
theorem ctz_low {s : Nat} (h : s < 2 ^ 24) (h0 : s ≠ 0) : Lib.ctz 64 s = lowN s := by
  obtain ⟨t, ht, _, _, hu, _, _⟩ := rest_step (a := s) (k := 0) h (by rw [restK_zero]; exact h0)
  rw [restK_zero] at ht
  rw [upK_zero, List.nil_append] at hu
  obtain ⟨_, h2, h3⟩ := low_is h h0
  rw [ht]
  have ht2 : s.testBit t = true := (upK_mem (k := t + 1) (by rw [hu]; simp)).2
  rcases Nat.lt_trichotomy t (lowN s) with h4 | h4 | h4
  · rw [h3 t h4] at ht2; cases ht2
  · exact h4
  · have : lowN s ∈ upK s (t + 1) := by
      unfold upK
      rw [List.mem_filter]
      exact ⟨List.mem_range.2 (by omega), h2⟩
    rw [hu, List.mem_singleton] at this
    exact this.symm
set_option maxHeartbeats 4000000 in
theorem iHullT {l : List Int} (hg : grpB l = true) (w : World) (s k u c : Nat) (hs : s < 2 ^ (prodI l).toNat) (h0 : s ≠ 0) (hk : lowN s = k) (hu : negN l (k : Int) = (u : Int)) (hc : IsClo l (movN l s u) c) (B : Nat) (hB0 : B ≤ w.heap.size) (ht : TabZ B w) :
    Calls Tryz.prog 48 #[tV (l.getD 0 1) (l.getD 1 1) (l.getD 2 1), .int .u64 s] w fun e w' => e = .returned (.int .u64 (movN l c k : Nat)) ∧ Below w.heap.size w w' := by
  have hs24 := grp_pow hg hs
  have hkn : (k : Int) < prodI l := el_of hg hs (by rw [← hk]; exact (low_is hs24 h0).2.1)
  have hun : (u : Int) < prodI l := by rw [← hu]; exact (negN_in (ords_grp hg) (k : Int)).2
  have HLE := Lib.hid (fun (W : World) (h2 : TabZ B W) => iLeast W s hs24 h0 B h2)
  rw [ctz_low hs24 h0, hk] at HLE
  have HNE := Lib.hid (fun (W : World) => iNegEl hg W k u hkn hu)
  have HS1 := Lib.hid (fun (W : World) => iMov hg W s u hs hun)
  obtain ⟨v, hv⟩ : ∃ v, movN l s u = v := ⟨_, rfl⟩
  have hvn : v < 2 ^ (prodI l).toNat := by rw [← hv]; exact movN_lt hg s u
  rw [hv] at HS1 hc
  have HGN := Lib.hid (fun (W : World) (h1 : B ≤ W.heap.size) (h2 : TabZ B W) => iGenerated hg W v c hvn hc B h1 h2)
  have HS2 := Lib.hid (fun (W : World) => iMov hg W c k hc.lt hkn)
  obtain ⟨o, ho⟩ : ∃ o, movN l c k = o := ⟨_, rfl⟩
  rw [ho] at HS2
  rw [ho]
  obtain ⟨p, EP⟩ : ∃ p, Hid (l.getD 0 1 = p) := ⟨_, Lib.hid rfl⟩
  obtain ⟨q, EQ⟩ : ∃ q, Hid (l.getD 1 1 = q) := ⟨_, Lib.hid rfl⟩
  obtain ⟨r, ER⟩ : ∃ r, Hid (l.getD 2 1 = r) := ⟨_, Lib.hid rfl⟩
  rw [EP.out, EQ.out, ER.out] at HNE HS1 HGN HS2
  rw [EP.out, EQ.out, ER.out]
  have HTZ := Lib.hid ht
  have HAL := Lib.hid (heap_alloc_new w (.cells #[.int .i64 p, .int .i64 q, .int .i64 r] 41))
  have T0 := Lib.hid (Below.refl (w.alloc (.cells #[.int .i64 p, .int .i64 q, .int .i64 r] 41)).heap.size (w.alloc (.cells #[.int .i64 p, .int .i64 q, .int .i64 r] 41)))
  have HT1 : Hid (TabZ B (w.alloc (.cells #[.int .i64 p, .int .i64 q, .int .i64 r] 41))) := Lib.hid (ht.on ((Joins.below_alloc1 w _).mono hB0))
  have HTK : Hid (∀ W', Below (w.alloc (.cells #[.int .i64 p, .int .i64 q, .int .i64 r] 41)).heap.size (w.alloc (.cells #[.int .i64 p, .int .i64 q, .int .i64 r] 41)) W' → B ≤ W'.heap.size ∧ TabZ B W') := Lib.hid (fun W' hb => ⟨Nat.le_trans hB0 (Nat.le_trans (by simp) hb.size), HT1.out.on (hb.mono (Nat.le_trans hB0 (by simp)))⟩)
  obtain ⟨c0, c1, c2, _, _, _⟩ := trip_cell (keepH T0.out (by simp) HAL.out)
  clear hs h0 hk hu hc ht hg hs24 hkn hun hv hvn ho
  go_enter Tryz.func48, Tryz.ntmps48
  go_upto_region 2 with (go_at_call 72; refine (HLE.out _ HT1.out).mono ?_; rintro e w1 ⟨rfl, rfl⟩)
  go_region_held3 (fun W => W.cell? ⟨w.heap.size, 0, none⟩ = some (.int .i64 p) ∧ W.cell? ⟨w.heap.size, 1, none⟩ = some (.int .i64 q) ∧ W.cell? ⟨w.heap.size, 2, none⟩ = some (.int .i64 r)) (first | exact ⟨e0, e1, e2⟩ | exact ⟨d0, d1, d2⟩ | exact ⟨c0, c1, c2⟩)
    (first
    | (go_at_call 55; refine (HS1.out _).mono ?_; rintro e w3 ⟨rfl, hb3⟩; have T3 := Lib.hid (T2.out.trans (hb3.mono T2.out.size)); obtain ⟨e0, e1, e2, _, _, _⟩ := trip_cell (keepH T3.out (by simp) HAL.out))
    | (go_at_call 73; refine (HNE.out _).mono ?_; rintro e w2 ⟨rfl, hb2⟩; have T2 := Lib.hid (T0.out.drew.trans (hb2.mono T0.out.drew.size)); obtain ⟨d0, d1, d2, _, _, _⟩ := trip_cell (keepH T2.out (by simp) HAL.out)))
  all_goals go_wp2
  go_region_held3 (fun W => W.cell? ⟨w.heap.size, 0, none⟩ = some (.int .i64 p) ∧ W.cell? ⟨w.heap.size, 1, none⟩ = some (.int .i64 q) ∧ W.cell? ⟨w.heap.size, 2, none⟩ = some (.int .i64 r)) (first | exact ⟨i0, i1, i2⟩ | exact ⟨f0, f1, f2⟩ | exact ⟨e0, e1, e2⟩)
    (first
    | (go_at_call 55; have hx_ := T4; clear hx_; refine (HS2.out _).mono ?_; rintro e w5 ⟨rfl, hb5⟩; have T5 := Lib.hid (T4.out.trans (hb5.mono T4.out.size)); obtain ⟨i0, i1, i2, _, _, _⟩ := trip_cell (keepH T5.out (by simp) HAL.out))
    | (go_at_call 30; refine (HGN.out _ (HTK.out _ T3.out.drew).1 (HTK.out _ T3.out.drew).2).mono ?_; rintro e w4 ⟨rfl, hb4⟩; have T4 := Lib.hid (T3.out.drew.trans (hb4.mono T3.out.drew.size)); obtain ⟨f0, f1, f2, _, _, _⟩ := trip_cell (keepH T4.out (by simp) HAL.out)))
  all_goals go_wp2
  go_ret
  exact ⟨rfl, (Joins.below_alloc1 w _).trans (T5.out.mono (by simp))⟩
set_option maxHeartbeats 1000000 in
theorem iHull (w : World) (a : Option Addr) (l : List Int) (n cap : Nat) (s r0 : Int) (hn : n = l.length) (hm : n ≤ 9223372036854775807) (hr : HullX l s r0) (hi : Ints w a l) (B : Nat) (hB0 : B ≤ w.heap.size) (ht : TabZ B w) :
    Calls Tryz.prog 23 #[.agg #[.slice a n cap], .int .i64 s] w fun e w' => e = .returned (.int .i64 r0) ∧ Below w.heap.size w w' := by
  have HTZ := Lib.hid ht
  clear ht
  have HI := Lib.hid (ints_alloc hi (.cells #[.slice a n cap] 26))
  have HN := Lib.hid hn
  have C1 := newC w (.slice a n cap) 26 (n := w.heap.size) rfl
  have HB := Lib.hid (Joins.below_alloc1 w (.cells #[.slice a n cap] 26))
  have T0 := Lib.hid (Below.refl (w.alloc (.cells #[.slice a n cap] 26)).heap.size (w.alloc (.cells #[.slice a n cap] 26)))
  clear hi hn
  cases hs : isS l s with
  | false =>
    have HS := Lib.hid hs
    obtain rfl := hr.2 (.inl hs)
    clear hs hr
    go_enter Tryz.func23, Tryz.ntmps23
    go_wp2_with ((go_at_call 29; refine (iSetIn_no _ _ _ _ _ _ HN.out hm (HI.out.below rfl T0.out) HS.out).mono ?_; rintro e w1 ⟨rfl, hb1⟩; have TA := Lib.hid ((HB.out.trans (hb1.mono (by simp))).alloc (Nat.le_trans (by simp) hb1.size) (.cells #[.int .i64 0, .int .i64 0, .int .i64 0] 41)); obtain ⟨y0, y1, y2, _, _, _⟩ := trip_cell (heap_alloc_new w1 (.cells #[.int .i64 0, .int .i64 0, .int .i64 0] 41))))
    go_ret
    exact ⟨rfl, TA.out⟩
  | true =>
    have HS := Lib.hid hs
    obtain ⟨hg, s, rfl, hsn, hs24⟩ := isS_true hs
    obtain ⟨p, EP⟩ : ∃ p, Hid (l.getD 0 1 = p) := ⟨_, Lib.hid rfl⟩
    obtain ⟨q, EQ⟩ : ∃ q, Hid (l.getD 1 1 = q) := ⟨_, Lib.hid rfl⟩
    obtain ⟨r, ER⟩ : ∃ r, Hid (l.getD 2 1 = r) := ⟨_, Lib.hid rfl⟩
    by_cases h0 : s = 0
    · subst h0
      have HS := Lib.hid (show isS l (0 : Int) = true from hs)
      obtain rfl := hr.2 (.inr rfl)
      clear hs hr hg hs24 hsn
      go_enter Tryz.func23, Tryz.ntmps23
      go_wp2_with ((go_at_call 29; refine (iSetIn_yes _ _ _ _ _ _ HN.out hm (HI.out.below rfl T0.out) HS.out).mono ?_; rw [EP.out, EQ.out, ER.out]; rintro e w1 ⟨rfl, hb1⟩; have TA := Lib.hid ((HB.out.trans (hb1.mono (by simp))).alloc (Nat.le_trans (by simp) hb1.size) (.cells #[.int .i64 p, .int .i64 q, .int .i64 r] 41)); obtain ⟨y0, y1, y2, _, _, _⟩ := trip_cell (heap_alloc_new w1 (.cells #[.int .i64 p, .int .i64 q, .int .i64 r] 41))))
      go_ret
      exact ⟨rfl, TA.out⟩
    · have hp : ((s : Int) == 0) = false := by simp; omega
      obtain ⟨c, hc, rfl⟩ := hr.1 hs (by omega)
      rw [Int.toNat_natCast] at hc
      rw [Int.toNat_natCast]
      obtain ⟨k, hk⟩ : ∃ k, lowN s = k := ⟨_, rfl⟩
      rw [hk] at hc
      rw [hk]
      obtain ⟨u, hu, hu2⟩ := neg_nat hg (k : Int)
      rw [hu, Int.toNat_natCast] at hc
      have HHU := Lib.hid (fun (W : World) (h1 : B ≤ W.heap.size) (h2 : TabZ B W) => iHullT hg W s k u c hsn h0 hk hu hc B h1 h2)
      have hv24 : movN l c k < 16777216 := movN_lt24 hg c k
      obtain ⟨v, hv⟩ : ∃ v, movN l c k = v := ⟨_, rfl⟩
      rw [hv] at HHU hv24
      rw [hv]
      rw [EP.out, EQ.out, ER.out] at HHU
      clear hs hr hg hs24 hsn hk hu hu2 hc hv h0
      go_enter Tryz.func23, Tryz.ntmps23
      go_wp2_with (first
        | (go_at_call 48; refine (HHU.out _ (Nat.le_trans hB0 TA.out.size) (HTZ.out.on (TA.out.mono hB0))).mono ?_; rintro e w2 ⟨rfl, hb2⟩)
        | (go_at_call 29; refine (iSetIn_yes _ _ _ _ _ _ HN.out hm (HI.out.below rfl T0.out) HS.out).mono ?_; rw [EP.out, EQ.out, ER.out]; rintro e w1 ⟨rfl, hb1⟩; have TA := Lib.hid ((HB.out.trans (hb1.mono (by simp))).alloc (Nat.le_trans (by simp) hb1.size) (.cells #[.int .i64 p, .int .i64 q, .int .i64 r] 41)); obtain ⟨y0, y1, y2, _, _, _⟩ := trip_cell (heap_alloc_new w1 (.cells #[.int .i64 p, .int .i64 q, .int .i64 r] 41))))
      go_ret
      exact ⟨rfl, TA.out.trans (hb2.mono TA.out.size)⟩
set_option maxHeartbeats 1000000 in
theorem iCos (w : World) (a : Option Addr) (l : List Int) (n cap : Nat) (s : Int) (hn : n = l.length) (hm : n ≤ 9223372036854775807) (hi : Ints w a l) (B : Nat) (hB0 : B ≤ w.heap.size) (ht : TabZ B w) :
    Calls Tryz.prog 18 #[.agg #[.slice a n cap], .int .i64 s] w fun e w' => e = .returned (.bool (cosB l s)) ∧ Below w.heap.size w w' := by
  have HTZ := Lib.hid ht
  clear ht
  have HI := Lib.hid (ints_alloc hi (.cells #[.slice a n cap] 26))
  have HN := Lib.hid hn
  have C1 := newC w (.slice a n cap) 26 (n := w.heap.size) rfl
  have HB := Lib.hid (Joins.below_alloc1 w (.cells #[.slice a n cap] 26))
  have T0 := Lib.hid (Below.refl (w.alloc (.cells #[.slice a n cap] 26)).heap.size (w.alloc (.cells #[.slice a n cap] 26)))
  clear hi hn
  cases hs : isS l s with
  | false =>
    have HS := Lib.hid hs
    rw [show cosB l s = false by unfold cosB; rw [hs]; rfl]
    clear hs
    go_enter Tryz.func18, Tryz.ntmps18
    go_wp2_with ((go_at_call 29; refine (iSetIn_no _ _ _ _ _ _ HN.out hm (HI.out.below rfl T0.out) HS.out).mono ?_; rintro e w1 ⟨rfl, hb1⟩; have TA := Lib.hid ((HB.out.trans (hb1.mono (by simp))).alloc (Nat.le_trans (by simp) hb1.size) (.cells #[.int .i64 0, .int .i64 0, .int .i64 0] 41)); obtain ⟨y0, y1, y2, _, _, _⟩ := trip_cell (heap_alloc_new w1 (.cells #[.int .i64 0, .int .i64 0, .int .i64 0] 41))))
    go_ret
    exact ⟨rfl, TA.out⟩
  | true =>
    have HS := Lib.hid hs
    obtain ⟨hg, s, rfl, hsn, hs24⟩ := isS_true hs
    obtain ⟨p, EP⟩ : ∃ p, Hid (l.getD 0 1 = p) := ⟨_, Lib.hid rfl⟩
    obtain ⟨q, EQ⟩ : ∃ q, Hid (l.getD 1 1 = q) := ⟨_, Lib.hid rfl⟩
    obtain ⟨r, ER⟩ : ∃ r, Hid (l.getD 2 1 = r) := ⟨_, Lib.hid rfl⟩
    by_cases h0 : s = 0
    · subst h0
      rw [show cosB l ((0 : Nat) : Int) = false by unfold cosB; rw [hs]; rfl]
      have HS := Lib.hid (show isS l (0 : Int) = true from hs)
      clear hs hg hs24 hsn
      go_enter Tryz.func18, Tryz.ntmps18
      go_wp2_with ((go_at_call 29; refine (iSetIn_yes _ _ _ _ _ _ HN.out hm (HI.out.below rfl T0.out) HS.out).mono ?_; rw [EP.out, EQ.out, ER.out]; rintro e w1 ⟨rfl, hb1⟩; have TA := Lib.hid ((HB.out.trans (hb1.mono (by simp))).alloc (Nat.le_trans (by simp) hb1.size) (.cells #[.int .i64 p, .int .i64 q, .int .i64 r] 41)); obtain ⟨y0, y1, y2, _, _, _⟩ := trip_cell (heap_alloc_new w1 (.cells #[.int .i64 p, .int .i64 q, .int .i64 r] 41))))
      go_ret
      exact ⟨rfl, TA.out⟩
    · have hp : ((s : Int) == 0) = false := by simp; omega
      have hp2 : ¬ ((s : Int) = 0) := by omega
      obtain ⟨k, hk⟩ : ∃ k, lowN s = k := ⟨_, rfl⟩
      obtain ⟨u, hu, hu2⟩ := neg_nat hg (k : Int)
      obtain ⟨c, hc⟩ := clo_ex hg (movN_lt24 hg s u)
      rw [cos_hull hs h0 hk hu hc]
      have HHU := Lib.hid (fun (W : World) (h1 : B ≤ W.heap.size) (h2 : TabZ B W) => iHullT hg W s k u c hsn h0 hk hu hc B h1 h2)
      obtain ⟨v, hv⟩ : ∃ v, movN l c k = v := ⟨_, rfl⟩
      rw [hv] at HHU
      rw [hv]
      rw [EP.out, EQ.out, ER.out] at HHU
      clear hs hg hs24 hsn hk hu hu2 hc hv h0
      have hb : (v == s) = ((v : Int) == (s : Int)) := by
        rw [Bool.eq_iff_iff]
        simp only [beq_iff_eq]
        omega
      rw [hb]
      clear hb
      go_enter Tryz.func18, Tryz.ntmps18
      go_wp2_with (first
        | (go_at_call 48; refine (HHU.out _ (Nat.le_trans hB0 TA.out.size) (HTZ.out.on (TA.out.mono hB0))).mono ?_; rintro e w2 ⟨rfl, hb2⟩)
        | (go_at_call 29; refine (iSetIn_yes _ _ _ _ _ _ HN.out hm (HI.out.below rfl T0.out) HS.out).mono ?_; rw [EP.out, EQ.out, ER.out]; rintro e w1 ⟨rfl, hb1⟩; have TA := Lib.hid ((HB.out.trans (hb1.mono (by simp))).alloc (Nat.le_trans (by simp) hb1.size) (.cells #[.int .i64 p, .int .i64 q, .int .i64 r] 41)); obtain ⟨y0, y1, y2, _, _, _⟩ := trip_cell (heap_alloc_new w1 (.cells #[.int .i64 p, .int .i64 q, .int .i64 r] 41))))
      go_ret
      exact ⟨by first | rfl | (simp; intros; omega), TA.out.trans (hb2.mono TA.out.size)⟩
end Go.Proofs.YtehdneppleifdaaGreatDoor

namespace Go.Proofs.YtehdneppleifdaaGreatDoor
open Go.RowKit
set_option maxRecDepth 1000000
theorem qsGen {W0 W : World} {au : Option Addr} {cu : Nat} {l : List Int} {x r : Int} (hr : GenX l x r) (hi : Ints W0 au l) (hl : l.length ≤ 4) (o : On W0 W) :
    Calls Tryz.prog 7 #[.agg #[.slice au l.length cu], .int .i64 x] W fun e w' => e = .returned (.int .i64 (r)) ∧ On W0 w' :=
  (sGen W au l _ cu x r rfl (by omega) hr (o.ints hi)).mono fun _ _ h => ⟨h.1, o.step h.2⟩
theorem qiGen {W0 W : World} {au : Option Addr} {cu : Nat} {l : List Int} {x r : Int} (hr : GenX l x r) {B : Nat} (hi : Ints W0 au l) (hl : l.length ≤ 4) (hB : B ≤ W0.heap.size) (ht : TabZ B W0) (o : On W0 W) :
    Calls Tryz.prog 6 #[.agg #[.slice au l.length cu], .int .i64 x] W fun e w' => e = .returned (.int .i64 (r)) ∧ On W0 w' :=
  (iGen W au l _ cu x r rfl (by omega) hr (o.ints hi) B (Nat.le_trans hB (Below.size o)) (o.tab hB ht)).mono fun _ _ h => ⟨h.1, o.step h.2⟩
theorem qsHul {W0 W : World} {au : Option Addr} {cu : Nat} {l : List Int} {x r : Int} (hr : HullX l x r) (hi : Ints W0 au l) (hl : l.length ≤ 4) (o : On W0 W) :
    Calls Tryz.prog 27 #[.agg #[.slice au l.length cu], .int .i64 x] W fun e w' => e = .returned (.int .i64 (r)) ∧ On W0 w' :=
  (sHull W au l _ cu x r rfl (by omega) hr (o.ints hi)).mono fun _ _ h => ⟨h.1, o.step h.2⟩
theorem qiHul {W0 W : World} {au : Option Addr} {cu : Nat} {l : List Int} {x r : Int} (hr : HullX l x r) {B : Nat} (hi : Ints W0 au l) (hl : l.length ≤ 4) (hB : B ≤ W0.heap.size) (ht : TabZ B W0) (o : On W0 W) :
    Calls Tryz.prog 23 #[.agg #[.slice au l.length cu], .int .i64 x] W fun e w' => e = .returned (.int .i64 (r)) ∧ On W0 w' :=
  (iHull W au l _ cu x r rfl (by omega) hr (o.ints hi) B (Nat.le_trans hB (Below.size o)) (o.tab hB ht)).mono fun _ _ h => ⟨h.1, o.step h.2⟩
theorem qsCno {W0 W : World} {au : Option Addr} {cu : Nat} {l : List Int} {x y : Int} (hi : Ints W0 au l) (hl : l.length ≤ 4) (o : On W0 W) :
    Calls Tryz.prog 25 #[.agg #[.slice au l.length cu], .int .i64 x, .int .i64 y] W fun e w' => e = .returned (.int .i64 (numE l x y)) ∧ On W0 w' :=
  (sCosNo W au l _ cu x y rfl (by omega) (o.ints hi)).mono fun _ _ h => ⟨h.1, o.step h.2⟩
theorem qiCno {W0 W : World} {au : Option Addr} {cu : Nat} {l : List Int} {x y : Int} {B : Nat} (hi : Ints W0 au l) (hl : l.length ≤ 4) (hB : B ≤ W0.heap.size) (ht : TabZ B W0) (o : On W0 W) :
    Calls Tryz.prog 24 #[.agg #[.slice au l.length cu], .int .i64 x, .int .i64 y] W fun e w' => e = .returned (.int .i64 (numE l x y)) ∧ On W0 w' :=
  (iCosNo W au l _ cu x y rfl (by omega) (o.ints hi) B (Nat.le_trans hB (Below.size o)) (o.tab hB ht)).mono fun _ _ h => ⟨h.1, o.step h.2⟩
theorem qsIsg {W0 W : World} {au : Option Addr} {cu : Nat} {l : List Int} {x : Int} (hi : Ints W0 au l) (hl : l.length ≤ 4) (o : On W0 W) :
    Calls Tryz.prog 46 #[.agg #[.slice au l.length cu], .int .i64 x] W fun e w' => e = .returned (.bool (sgB l x)) ∧ On W0 w' :=
  (sIsSub W au l _ cu x rfl (by omega) (o.ints hi)).mono fun _ _ h => ⟨h.1, o.step h.2⟩
theorem qiIsg {W0 W : World} {au : Option Addr} {cu : Nat} {l : List Int} {x : Int} {B : Nat} (hi : Ints W0 au l) (hl : l.length ≤ 4) (hB : B ≤ W0.heap.size) (ht : TabZ B W0) (o : On W0 W) :
    Calls Tryz.prog 8 #[.agg #[.slice au l.length cu], .int .i64 x] W fun e w' => e = .returned (.bool (sgB l x)) ∧ On W0 w' :=
  (iIsSub W au l _ cu x rfl (by omega) (o.ints hi) B (Nat.le_trans hB (Below.size o)) (o.tab hB ht)).mono fun _ _ h => ⟨h.1, o.step h.2⟩
theorem qsIco {W0 W : World} {au : Option Addr} {cu : Nat} {l : List Int} {x : Int} (hi : Ints W0 au l) (hl : l.length ≤ 4) (o : On W0 W) :
    Calls Tryz.prog 26 #[.agg #[.slice au l.length cu], .int .i64 x] W fun e w' => e = .returned (.bool (cosB l x)) ∧ On W0 w' :=
  (sCos W au l _ cu x rfl (by omega) (o.ints hi)).mono fun _ _ h => ⟨h.1, o.step h.2⟩
theorem qiIco {W0 W : World} {au : Option Addr} {cu : Nat} {l : List Int} {x : Int} {B : Nat} (hi : Ints W0 au l) (hl : l.length ≤ 4) (hB : B ≤ W0.heap.size) (ht : TabZ B W0) (o : On W0 W) :
    Calls Tryz.prog 18 #[.agg #[.slice au l.length cu], .int .i64 x] W fun e w' => e = .returned (.bool (cosB l x)) ∧ On W0 w' :=
  (iCos W au l _ cu x rfl (by omega) (o.ints hi) B (Nat.le_trans hB (Below.size o)) (o.tab hB ht)).mono fun _ _ h => ⟨h.1, o.step h.2⟩
theorem qsCnf {W0 W : World} {au : Option Addr} {cu : Nat} {l : List Int} {x : Int} (hi : Ints W0 au l) (hl : l.length ≤ 4) (o : On W0 W) :
    Calls Tryz.prog 14 #[.agg #[.slice au l.length cu], .int .i64 x] W fun e w' => e = .returned (.int .i64 (cntE l x)) ∧ On W0 w' :=
  (sCount W au l _ cu x rfl (by omega) (o.ints hi)).mono fun _ _ h => ⟨h.1, o.step h.2⟩
theorem qsOrf {W0 W : World} {au : Option Addr} {cu : Nat} {l : List Int} (hi : Ints W0 au l) (hl : l.length ≤ 4) (o : On W0 W) :
    Calls Tryz.prog 13 #[.agg #[.slice au l.length cu]] W fun e w' => e = .returned (.int .i64 (ordN l)) ∧ On W0 w' :=
  (sOrderOf W au l _ cu  rfl (by omega) (o.ints hi)).mono fun _ _ h => ⟨h.1, o.step h.2⟩
theorem qiFuf {W0 W : World} {au : Option Addr} {cu : Nat} {l : List Int} (hi : Ints W0 au l) (hl : l.length ≤ 4) (o : On W0 W) :
    Calls Tryz.prog 19 #[.agg #[.slice au l.length cu]] W fun e w' => e = .returned (.int .i64 (fullE l)) ∧ On W0 w' :=
  (iFullE W au l _ cu  rfl (by omega) (o.ints hi)).mono fun _ _ h => ⟨h.1, o.step h.2⟩
theorem qsSgs {W0 W : World} {au : Option Addr} {cu : Nat} {l : List Int} {L : List Nat} {M : List Int} (hL : SgList l L) (hM : M = NL L) (hi : Ints W0 au l) (hl : l.length ≤ 4) (o : On W0 W) :
    Calls Tryz.prog 11 #[.agg #[.slice au l.length cu]] W fun e w' => ∃ (a2 : Option Addr) (c2 : Nat), e = .returned (.tuple #[.slice a2 (M).length c2, .bool (grpB l)]) ∧ Ints w' a2 (M) ∧ On W0 w' :=
  (sSubsM W au l _ cu hL hM rfl (by omega) (o.ints hi)).mono fun _ _ ⟨v, h1, h2, h3⟩ => by
    obtain ⟨a2, c2, rfl⟩ := own_slice h2
    exact ⟨a2, c2, h1, own_ints h2, o.step h3⟩
theorem qiSgs {W0 W : World} {au : Option Addr} {cu : Nat} {l : List Int} {L : List Nat} {M : List Int} (hL : SgList l L) (hM : M = NL L) (hi : Ints W0 au l) (hl : l.length ≤ 4) (o : On W0 W) :
    Calls Tryz.prog 10 #[.agg #[.slice au l.length cu]] W fun e w' => ∃ (a2 : Option Addr) (c2 : Nat), e = .returned (.tuple #[.slice a2 (M).length c2, .bool (grpB l)]) ∧ Ints w' a2 (M) ∧ On W0 w' :=
  (iSubsM W au l _ cu hL hM rfl (by omega) (o.ints hi)).mono fun _ _ ⟨v, h1, h2, h3⟩ => by
    obtain ⟨a2, c2, rfl⟩ := own_slice h2
    exact ⟨a2, c2, h1, own_ints h2, o.step h3⟩
theorem qsCos {W0 W : World} {au : Option Addr} {cu : Nat} {l : List Int} {x : Int} (hi : Ints W0 au l) (hl : l.length ≤ 4) (o : On W0 W) :
    Calls Tryz.prog 17 #[.agg #[.slice au l.length cu], .int .i64 x] W fun e w' => ∃ (a2 : Option Addr) (c2 : Nat), e = .returned (.tuple #[.slice a2 (cosE l x).length c2, .bool (sgB l x)]) ∧ Ints w' a2 (cosE l x) ∧ On W0 w' :=
  (sCosets W au l _ cu x rfl (by omega) (o.ints hi)).mono fun _ _ ⟨v, h1, h2, h3⟩ => by
    obtain ⟨a2, c2, rfl⟩ := own_slice h2
    exact ⟨a2, c2, h1, own_ints h2, o.step h3⟩
theorem qiCos {W0 W : World} {au : Option Addr} {cu : Nat} {l : List Int} {x : Int} {B : Nat} (hi : Ints W0 au l) (hl : l.length ≤ 4) (hB : B ≤ W0.heap.size) (ht : TabZ B W0) (o : On W0 W) :
    Calls Tryz.prog 16 #[.agg #[.slice au l.length cu], .int .i64 x] W fun e w' => ∃ (a2 : Option Addr) (c2 : Nat), e = .returned (.tuple #[.slice a2 (cosE l x).length c2, .bool (sgB l x)]) ∧ Ints w' a2 (cosE l x) ∧ On W0 w' :=
  (iCosetsOf W au l _ cu x rfl (by omega) (o.ints hi) B (Nat.le_trans hB (Below.size o)) (o.tab hB ht)).mono fun _ _ ⟨v, h1, h2, h3⟩ => by
    obtain ⟨a2, c2, rfl⟩ := own_slice h2
    exact ⟨a2, c2, h1, own_ints h2, o.step h3⟩
end Go.Proofs.YtehdneppleifdaaGreatDoor
