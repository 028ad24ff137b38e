/- The contracts of the program's own subgroupAndSetIn, FillSet, CorePart and QuotientSet. -/
import Derived.Test.YtehdneppleifdaaDoorMGAT
import Derived.Test.YtehdneppleifdaaDoorMGAL
namespace Go.Proofs.YtehdneppleifdaaDoor
open Go.RowKit Go.Shelf
attribute [local go_sem] Oper.semAt_some
set_option maxRecDepth 1000000
set_option maxHeartbeats 2000000 in
theorem iSS_no (w : World) (a : Option Addr) (l : List Int) (n cap : Nat) (h s : Int) (hn : n = l.length) (hm : n ≤ 9223372036854775807) (hi : Ints w a l) (B : Nat) (hB0 : B ≤ w.heap.size) (ht : TabZ B w) (hq : quoB l h s = false) :
    Calls Tryd.prog 38 #[.agg #[.slice a n cap], .int .i64 h, .int .i64 s] w fun e w' => e = .returned (.tuple #[tV 0 0 0, .int .u64 0, .int .u64 0, .bool false]) ∧ Below w.heap.size w w' := by
  have HTZ := Lib.hid (ht.on ((Joins.below_alloc2 w (.cells #[.slice a n cap] 26) (.cells #[.int .i64 0, .int .i64 0, .int .i64 0] 46)).mono hB0))
  clear ht
  have HI := Lib.hid (ints_alloc (ints_alloc hi (.cells #[.slice a n cap] 26)) (.cells #[.int .i64 0, .int .i64 0, .int .i64 0] 46))
  have HN := Lib.hid hn
  have C1 := keepC (Joins.below_alloc1 _ (.cells #[.int .i64 0, .int .i64 0, .int .i64 0] 46)) (by simp <;> omega) (newC w (.slice a n cap) 26 (n := w.heap.size) rfl)
  have HB := Lib.hid (Joins.below_alloc2 w (.cells #[.slice a n cap] 26) (.cells #[.int .i64 0, .int .i64 0, .int .i64 0] 46))
  have R1 : Hid (((w.alloc (.cells #[.slice a n cap] 26)).alloc (.cells #[.int .i64 0, .int .i64 0, .int .i64 0] 46)).heap[w.heap.size + 1]? = some (.cells #[.int .i64 0, .int .i64 0, .int .i64 0] 46 (0, 0))) := Lib.hid (by simpa using heap_alloc_new (w.alloc (.cells #[.slice a n cap] 26)) (.cells #[.int .i64 0, .int .i64 0, .int .i64 0] 46))
  have T0 := Lib.hid (Below.refl ((w.alloc (.cells #[.slice a n cap] 26)).alloc (.cells #[.int .i64 0, .int .i64 0, .int .i64 0] 46)).heap.size ((w.alloc (.cells #[.slice a n cap] 26)).alloc (.cells #[.int .i64 0, .int .i64 0, .int .i64 0] 46)))
  clear hi hn
  cases hh : sgB l h with
  | false =>
    have HH := Lib.hid hh
    clear hh hq
    go_enter Tryd.func38, Tryd.ntmps38
    go_wp2_with (first
      | (go_at_call 33; refine (iSetIn _ _ _ _ _ _ HN.out hm (HI.out.below rfl T1.out)).mono ?_; unfold SetInPost; rintro e w2 ⟨p', q', r', v', rfl, hv, hb2⟩; clear hv; have S2 := Lib.hid (T1.out.trans (hb2.mono T1.out.size)); have T2 := Lib.hid (S2.out.alloc S2.out.size (.cells #[.int .i64 p', .int .i64 q', .int .i64 r'] 46)); obtain ⟨x20, x21, x22, x2f0, x2f1, x2f2⟩ := trip_cell (keepH T2.out (by simp <;> omega) R1.out); obtain ⟨y20, y21, y22, _, _, _⟩ := trip_cell (keepH (hb2.alloc hb2.size (.cells #[.int .i64 p', .int .i64 q', .int .i64 r'] 46)) (by simp) R7.out))
      | (go_at_call 37; refine (iSgIn_no _ _ _ _ _ _ HN.out hm (HI.out.below rfl T0.out) B (Nat.le_trans hB0 (by simp <;> omega)) HTZ.out HH.out).mono ?_; rintro e w1 ⟨rfl, hb1⟩; have S1 := Lib.hid (T0.out.trans (hb1.mono T0.out.size)); have T1 := Lib.hid (S1.out.alloc S1.out.size (.cells #[.int .i64 0, .int .i64 0, .int .i64 0] 46)); have R7 := Lib.hid (heap_alloc_new w1 (.cells #[.int .i64 0, .int .i64 0, .int .i64 0] 46)); have c1 := keepC T1.out (by simp <;> omega) C1; obtain ⟨x10, x11, x12, x1f0, x1f1, x1f2⟩ := trip_cell (keepH T1.out (by simp <;> omega) R1.out); obtain ⟨y10, y11, y12, _, _, _⟩ := trip_cell R7.out))
    refine bodyPost_ret (v := .tuple #[tV 0 0 0, .int .u64 0, .int .u64 0, .bool false]) (by simp [results, Tryd.results38, go_sem, x20, x21, x22]) rfl ⟨rfl, below_set3 (HB.out.trans (T2.out.mono (by simp <;> omega))) (by omega)⟩
  | true =>
    have HH := Lib.hid hh
    have hs : isS l s = false := by unfold quoB at hq; rw [hh] at hq; simpa using hq
    have HS := Lib.hid hs
    obtain ⟨_, h, rfl, _, _⟩ := isS_true (sgB_is hh)
    obtain ⟨p, EP⟩ : ∃ p, Hid (l.getD 0 1 = p) := ⟨_, Lib.hid rfl⟩
    obtain ⟨q, EQ⟩ : ∃ q, Hid (l.getD 1 1 = q) := ⟨_, Lib.hid rfl⟩
    obtain ⟨r, ER⟩ : ∃ r, Hid (l.getD 2 1 = r) := ⟨_, Lib.hid rfl⟩
    clear hh hq hs
    go_enter Tryd.func38, Tryd.ntmps38
    go_wp2_with (first
      | (go_at_call 33; refine (iSetIn_no _ _ _ _ _ _ HN.out hm (HI.out.below rfl T1.out) HS.out).mono ?_; rintro e w2 ⟨rfl, hb2⟩; have S2 := Lib.hid (T1.out.trans (hb2.mono T1.out.size)); have T2 := Lib.hid (S2.out.alloc S2.out.size (.cells #[.int .i64 0, .int .i64 0, .int .i64 0] 46)); obtain ⟨x20, x21, x22, x2f0, x2f1, x2f2⟩ := trip_cell (keepH T2.out (by simp <;> omega) R1.out); obtain ⟨y20, y21, y22, _, _, _⟩ := trip_cell (keepH (hb2.alloc hb2.size (.cells #[.int .i64 0, .int .i64 0, .int .i64 0] 46)) (by simp) R7.out))
      | (go_at_call 37; refine (iSgIn_yes _ _ _ _ _ _ HN.out hm (HI.out.below rfl T0.out) B (Nat.le_trans hB0 (by simp <;> omega)) HTZ.out HH.out).mono ?_; rw [EP.out, EQ.out, ER.out]; rintro e w1 ⟨rfl, hb1⟩; have S1 := Lib.hid (T0.out.trans (hb1.mono T0.out.size)); have T1 := Lib.hid (S1.out.alloc S1.out.size (.cells #[.int .i64 p, .int .i64 q, .int .i64 r] 46)); have R7 := Lib.hid (heap_alloc_new w1 (.cells #[.int .i64 p, .int .i64 q, .int .i64 r] 46)); have c1 := keepC T1.out (by simp <;> omega) C1; obtain ⟨x10, x11, x12, x1f0, x1f1, x1f2⟩ := trip_cell (keepH T1.out (by simp <;> omega) R1.out); obtain ⟨y10, y11, y12, _, _, _⟩ := trip_cell R7.out))
    refine bodyPost_ret (v := .tuple #[tV 0 0 0, .int .u64 0, .int .u64 0, .bool false]) (by simp [results, Tryd.results38, go_sem, x20, x21, x22]) rfl ⟨rfl, below_set3 (HB.out.trans (T2.out.mono (by simp <;> omega))) (by omega)⟩
set_option maxHeartbeats 2000000 in
theorem iSS_yes (w : World) (a : Option Addr) (l : List Int) (n cap : Nat) (h s : Int) (hn : n = l.length) (hm : n ≤ 9223372036854775807) (hi : Ints w a l) (B : Nat) (hB0 : B ≤ w.heap.size) (ht : TabZ B w) (hq : quoB l h s = true) :
    Calls Tryd.prog 38 #[.agg #[.slice a n cap], .int .i64 h, .int .i64 s] w fun e w' => e = .returned (.tuple #[tV (l.getD 0 1) (l.getD 1 1) (l.getD 2 1), .int .u64 h, .int .u64 s, .bool true]) ∧ Below w.heap.size w w' := by
  have HTZ := Lib.hid (ht.on ((Joins.below_alloc2 w (.cells #[.slice a n cap] 26) (.cells #[.int .i64 0, .int .i64 0, .int .i64 0] 46)).mono hB0))
  clear ht
  have HI := Lib.hid (ints_alloc (ints_alloc hi (.cells #[.slice a n cap] 26)) (.cells #[.int .i64 0, .int .i64 0, .int .i64 0] 46))
  have HN := Lib.hid hn
  have C1 := keepC (Joins.below_alloc1 _ (.cells #[.int .i64 0, .int .i64 0, .int .i64 0] 46)) (by simp <;> omega) (newC w (.slice a n cap) 26 (n := w.heap.size) rfl)
  have HB := Lib.hid (Joins.below_alloc2 w (.cells #[.slice a n cap] 26) (.cells #[.int .i64 0, .int .i64 0, .int .i64 0] 46))
  have R1 : Hid (((w.alloc (.cells #[.slice a n cap] 26)).alloc (.cells #[.int .i64 0, .int .i64 0, .int .i64 0] 46)).heap[w.heap.size + 1]? = some (.cells #[.int .i64 0, .int .i64 0, .int .i64 0] 46 (0, 0))) := Lib.hid (by simpa using heap_alloc_new (w.alloc (.cells #[.slice a n cap] 26)) (.cells #[.int .i64 0, .int .i64 0, .int .i64 0] 46))
  have T0 := Lib.hid (Below.refl ((w.alloc (.cells #[.slice a n cap] 26)).alloc (.cells #[.int .i64 0, .int .i64 0, .int .i64 0] 46)).heap.size ((w.alloc (.cells #[.slice a n cap] 26)).alloc (.cells #[.int .i64 0, .int .i64 0, .int .i64 0] 46)))
  clear hi hn
  have hh : sgB l h = true := by unfold quoB at hq; exact (Bool.and_eq_true_iff.1 hq).1
  have hs : isS l s = true := by unfold quoB at hq; exact (Bool.and_eq_true_iff.1 hq).2
  have HH := Lib.hid hh
  have HS := Lib.hid hs
  obtain ⟨_, h, rfl, _, _⟩ := isS_true (sgB_is hh)
  obtain ⟨_, s, rfl, _, _⟩ := isS_true hs
  obtain ⟨p, EP⟩ : ∃ p, Hid (l.getD 0 1 = p) := ⟨_, Lib.hid rfl⟩
  obtain ⟨q, EQ⟩ : ∃ q, Hid (l.getD 1 1 = q) := ⟨_, Lib.hid rfl⟩
  obtain ⟨r, ER⟩ : ∃ r, Hid (l.getD 2 1 = r) := ⟨_, Lib.hid rfl⟩
  rw [EP.out, EQ.out, ER.out]
  clear hh hq hs
  go_enter Tryd.func38, Tryd.ntmps38
  go_wp2_with (first
      | (go_at_call 33; refine (iSetIn_yes _ _ _ _ _ _ HN.out hm (HI.out.below rfl T1.out) HS.out).mono ?_; rw [EP.out, EQ.out, ER.out]; rintro e w2 ⟨rfl, hb2⟩; have S2 := Lib.hid (T1.out.trans (hb2.mono T1.out.size)); have T2 := Lib.hid (S2.out.alloc S2.out.size (.cells #[.int .i64 p, .int .i64 q, .int .i64 r] 46)); obtain ⟨x20, x21, x22, x2f0, x2f1, x2f2⟩ := trip_cell (keepH T2.out (by simp <;> omega) R1.out); obtain ⟨y20, y21, y22, _, _, _⟩ := trip_cell (keepH (hb2.alloc hb2.size (.cells #[.int .i64 p, .int .i64 q, .int .i64 r] 46)) (by simp) R7.out))
      | (go_at_call 37; refine (iSgIn_yes _ _ _ _ _ _ HN.out hm (HI.out.below rfl T0.out) B (Nat.le_trans hB0 (by simp <;> omega)) HTZ.out HH.out).mono ?_; rw [EP.out, EQ.out, ER.out]; rintro e w1 ⟨rfl, hb1⟩; have S1 := Lib.hid (T0.out.trans (hb1.mono T0.out.size)); have T1 := Lib.hid (S1.out.alloc S1.out.size (.cells #[.int .i64 p, .int .i64 q, .int .i64 r] 46)); have R7 := Lib.hid (heap_alloc_new w1 (.cells #[.int .i64 p, .int .i64 q, .int .i64 r] 46)); have c1 := keepC T1.out (by simp <;> omega) C1; obtain ⟨x10, x11, x12, x1f0, x1f1, x1f2⟩ := trip_cell (keepH T1.out (by simp <;> omega) R1.out); obtain ⟨y10, y11, y12, _, _, _⟩ := trip_cell R7.out))
  refine bodyPost_ret (v := .tuple #[tV p q r, .int .u64 h, .int .u64 s, .bool true]) (by simp [results, Tryd.results38, go_sem, x20, x21, x22]) rfl ⟨rfl, below_set3 (HB.out.trans (T2.out.mono (by simp <;> omega))) (by omega)⟩
set_option maxHeartbeats 2000000 in
theorem iFill (w : World) (a : Option Addr) (l : List Int) (n cap : Nat) (h s : Int) (hn : n = l.length) (hm : n ≤ 9223372036854775807) (hi : Ints w a l) (B : Nat) (hB0 : B ≤ w.heap.size) (ht : TabZ B w) :
    Calls Tryd.prog 12 #[.agg #[.slice a n cap], .int .i64 h, .int .i64 s] w fun e w' => e = .returned (.int .i64 (fillE l h s)) ∧ Below w.heap.size w w' := by
  have HTZ := Lib.hid ht
  clear ht
  have HI := Lib.hid (ints_alloc hi (.cells #[.slice a n cap] 26))
  have HN := Lib.hid hn
  have C1 := newC w (.slice a n cap) 26 (n := w.heap.size) rfl
  have HB := Lib.hid (Joins.below_alloc1 w (.cells #[.slice a n cap] 26))
  have T0 := Lib.hid (Below.refl (w.alloc (.cells #[.slice a n cap] 26)).heap.size (w.alloc (.cells #[.slice a n cap] 26)))
  clear hi hn
  cases hs : quoB l h s with
  | false =>
    have HS := Lib.hid hs
    rw [show fillE l h s = -1 by unfold fillE; rw [if_neg (by unfold quoB at hs; intro hc; rw [hc.1, hc.2] at hs; cases hs)]]
    clear hs
    go_enter Tryd.func12, Tryd.ntmps12
    go_wp2_with (go_at_call 38; refine (iSS_no _ _ _ _ _ _ _ HN.out hm (HI.out.below rfl T0.out) B (Nat.le_trans hB0 (by simp)) (HTZ.out.on (HB.out.mono hB0)) HS.out).mono ?_; rintro e w1 ⟨rfl, hb1⟩; have TA := Lib.hid ((HB.out.trans (hb1.mono (by simp))).alloc (Nat.le_trans (by simp) hb1.size) (.cells #[.int .i64 0, .int .i64 0, .int .i64 0] 46)); have HAL := Lib.hid (heap_alloc_new w1 (.cells #[.int .i64 0, .int .i64 0, .int .i64 0] 46)); obtain ⟨y0, y1, y2, _, _, _⟩ := trip_cell HAL.out)
    go_ret
    exact ⟨rfl, TA.out⟩
  | true =>
    have HS := Lib.hid hs
    have hh : sgB l h = true := by unfold quoB at hs; exact (Bool.and_eq_true_iff.1 hs).1
    have h2 : isS l s = true := by unfold quoB at hs; exact (Bool.and_eq_true_iff.1 hs).2
    obtain ⟨hg, h, rfl, hhn, hh24⟩ := isS_true (sgB_is hh)
    obtain ⟨_, s, rfl, hsn, hs24⟩ := isS_true h2
    rw [show fillE l (h : Int) (s : Int) = ((sumN l s h : Nat) : Int) by unfold fillE; rw [if_pos ⟨hh, h2⟩, Int.toNat_natCast, Int.toNat_natCast]]
    have HT := Lib.hid (tri_grp hg)
    have HP := prod_pad (grpB_true hg).1
    have HV := Lib.hid (sum_prog hg hsn hhn)
    have hVl : sumN l s h < 16777216 := grp_pow hg (sumN_lt hg s h)
    rw [HP] at hsn hhn
    obtain ⟨p, EP⟩ : ∃ p, Hid (l.getD 0 1 = p) := ⟨_, Lib.hid rfl⟩
    obtain ⟨q, EQ⟩ : ∃ q, Hid (l.getD 1 1 = q) := ⟨_, Lib.hid rfl⟩
    obtain ⟨r, ER⟩ : ∃ r, Hid (l.getD 2 1 = r) := ⟨_, Lib.hid rfl⟩
    rw [EP.out, EQ.out, ER.out] at HT HV hsn hhn
    have HA := Lib.hid hsn
    have HC := Lib.hid hhn
    obtain ⟨V, EV⟩ : ∃ V, Hid (sumN l s h = V) := ⟨_, Lib.hid rfl⟩
    rw [EV.out] at HV hVl
    rw [EV.out]
    clear hs hh h2 hg HP hsn hhn
    go_enter Tryd.func12, Tryd.ntmps12
    go_wp2_with (first
      | (go_at_call 39; refine (iSum _ p q r s h HT.out HA.out HC.out B (Nat.le_trans hB0 TA.out.size) (HTZ.out.on (TA.out.mono hB0))).mono ?_; rw [HV.out]; rintro e w2 ⟨rfl, hb2⟩)
      | (go_at_call 38; refine (iSS_yes _ _ _ _ _ _ _ HN.out hm (HI.out.below rfl T0.out) B (Nat.le_trans hB0 (by simp)) (HTZ.out.on (HB.out.mono hB0)) HS.out).mono ?_; rw [EP.out, EQ.out, ER.out]; rintro e w1 ⟨rfl, hb1⟩; have TA := Lib.hid ((HB.out.trans (hb1.mono (by simp))).alloc (Nat.le_trans (by simp) hb1.size) (.cells #[.int .i64 p, .int .i64 q, .int .i64 r] 46)); have HAL := Lib.hid (heap_alloc_new w1 (.cells #[.int .i64 p, .int .i64 q, .int .i64 r] 46)); obtain ⟨y0, y1, y2, _, _, _⟩ := trip_cell HAL.out))
    go_ret
    exact ⟨rfl, TA.out.trans (hb2.mono TA.out.size)⟩
theorem cosN_at {l : List Int} {s : Nat} {R : List Nat} {k : Nat} (hk : k < R.length) : (cosN l s R).getD k 0 = movN l s (R.getD k 0) := by
  simp [cosN, List.getD, hk]
theorem not_zero {V s : Nat} : V ^^^ (V &&& s) = 0 ↔ s &&& V = V := by
  rw [Nat.and_comm s V]
  constructor
  · intro h
    have h2 : (V ^^^ (V &&& s)) ^^^ (V &&& s) = 0 ^^^ (V &&& s) := by rw [h]
    rw [Nat.xor_assoc, Nat.xor_self, Nat.xor_zero, Nat.zero_xor] at h2
    exact h2.symm
  · intro h
    rw [h, Nat.xor_self]
set_option maxHeartbeats 2000000 in
theorem iCore {l : List Int} (hg : grpB l = true) (w : World) (h s : Nat) (hh : h < 2 ^ (prodI l).toNat) (hs : s < 2 ^ 24) :
    Calls Tryd.prog 40 #[tV (l.getD 0 1) (l.getD 1 1) (l.getD 2 1), .int .u64 h, .int .u64 s] w fun e w' => e = .returned (.int .u64 (coreK l h s (repsK l h (prodI l).toNat) : Nat)) ∧ Below w.heap.size w w' := by
  have HCO := Lib.hid (fun (W : World) => iCosets hg W h hh)
  have HR24 : (repsK l h (prodI l).toNat).length ≤ 24 := by
    have h1 := reps_len l h (prodI l).toNat
    have h2 := (ords_grp hg).prod
    omega
  have HG := Lib.hid hg
  have HA := Lib.hid hs
  obtain ⟨p, EP⟩ : ∃ p, Hid (l.getD 0 1 = p) := ⟨_, Lib.hid rfl⟩
  obtain ⟨q, EQ⟩ : ∃ q, Hid (l.getD 1 1 = q) := ⟨_, Lib.hid rfl⟩
  obtain ⟨r, ER⟩ : ∃ r, Hid (l.getD 2 1 = r) := ⟨_, Lib.hid rfl⟩
  rw [EP.out, EQ.out, ER.out] at HCO
  rw [EP.out, EQ.out, ER.out]
  obtain ⟨R, hR⟩ : ∃ R, repsK l h (prodI l).toNat = R := ⟨_, rfl⟩
  rw [hR] at HCO HR24
  rw [hR]
  obtain ⟨m, hmm⟩ : ∃ m, R.length = m := ⟨_, rfl⟩
  have HMM := Lib.hid hmm
  have HLEN := Lib.hid ((cosN_len l h R).trans hmm)
  rw [hmm] at HCO HR24
  have HB := Lib.hid (Joins.below_alloc1 w (.cells #[.int .i64 p, .int .i64 q, .int .i64 r] 46))
  obtain ⟨c0, c1, c2, _, _, _⟩ := trip_cell (heap_alloc_new w (.cells #[.int .i64 p, .int .i64 q, .int .i64 r] 46))
  have T0 := Lib.hid (Below.refl (w.alloc (.cells #[.int .i64 p, .int .i64 q, .int .i64 r] 46)).heap.size (w.alloc (.cells #[.int .i64 p, .int .i64 q, .int .i64 r] 46)))
  clear hh hs hg hR hmm
  go_enter Tryd.func40, Tryd.ntmps40
  go_wp2_with (go_at_call 45; refine (HCO.out _).mono ?_; rintro e w2 ⟨v2, rfl, ho2, hb2⟩; obtain ⟨a2, cap2, rfl, he2⟩ := els_own HLEN.out.symm ho2; have HE2 := Lib.hid he2; have T2 := Lib.hid (T0.out.trans (hb2.mono T0.out.size)); clear ho2 he2)
  go_loopw [7, 14] (fun o i wr => ∃ k : Nat, k ≤ m ∧ i = .int .i64 k ∧ o = .int .u64 (coreK l h s (R.take k) : Nat) ∧ Below w2.heap.size w2 wr) (fun _ i _ => m - (intOf i).toNat)
  case atStart => exact ⟨0, Nat.zero_le _, rfl, rfl, Below.refl _ _⟩
  case round =>
    obtain ⟨k, hk, rfl, rfl, hbel⟩ := hrel
    have T4 := Lib.hid (T2.out.trans (hbel.mono T2.out.size))
    by_cases hlt : k < m
    · have hkR : k < R.length := by rw [HMM.out]; exact hlt
      have hkl : k < (cosN l h R).length := by rw [HLEN.out]; exact hlt
      rcases HE2.out with h0 | ⟨b, off, ha, hbl, hc⟩
      · rw [h0] at hkl; simp at hkl
      · subst ha
        have r1 := keepC hbel hbl (hc k hkl)
        rw [cosN_at hkR] at r1
        have hV24 : movN l h (R.getD k 0) < 16777216 := movN_lt24 HG.out h (R.getD k 0)
        have HY := Lib.hid (fun e => core_yes (l := l) (h := h) (a := s) hkR e)
        have HZ := Lib.hid (fun e => core_no (l := l) (h := h) (a := s) hkR e)
        have hC24 : coreK l h s (R.take k) < 16777216 := core_lt24 HG.out h s (R.take k)
        obtain ⟨V, hV⟩ : ∃ V, movN l h (R.getD k 0) = V := ⟨_, rfl⟩
        obtain ⟨C, hC⟩ : ∃ C, coreK l h s (R.take k) = C := ⟨_, rfl⟩
        rw [hV] at r1 hV24 HY HZ
        rw [hC] at hC24 HY HZ
        rw [hC]
        have hs24 : s < 16777216 := HA.out
        have HAN := bits_andNot V s (by omega) (by omega)
        have HNZ := not_zero (V := V) (s := s)
        have HOR := orU C V hC24 hV24
        have HBL := Lib.hid hbel
        obtain ⟨M, hM⟩ : ∃ M, V ^^^ (V &&& s) = M := ⟨_, rfl⟩
        rw [hM] at HAN HNZ
        clear hV hC hM hkl hkR hc hbel
        by_cases hp : s &&& V = V
        · have E1 := Lib.hid (HY.out hp)
          have hM0 := HNZ.2 hp
          subst hM0
          have hAN : bits .andNot .u64 (V : Int) (s : Int) = 0 := by simpa using HAN
          clear HY HZ hp HNZ HAN
          go_wp2
          go_roundw
          case rel => exact ⟨k + 1, by omega, by go_num, by rw [E1.out], HBL.out⟩
          case measure => simp [intOf]; omega
        · have E1 := Lib.hid (HZ.out hp)
          have hne : ((M : Int) == 0) = false := by
            have : M ≠ 0 := fun e => hp (HNZ.1 e)
            have : (M : Int) ≠ 0 := by omega
            simpa using this
          clear HY HZ HOR hp HNZ
          go_wp2
          go_roundw
          case rel => exact ⟨k + 1, by omega, by go_num, by rw [E1.out], HBL.out⟩
          case measure => simp [intOf]; omega
    · obtain rfl : k = m := by omega
      clear hbel
      go_wp2
      go_ret
      exact ⟨by rw [← HMM.out, List.take_length]; rfl, HB.out.trans (T4.out.mono (by simp))⟩
set_option maxHeartbeats 2000000 in
theorem iCoreP (w : World) (a : Option Addr) (l : List Int) (n cap : Nat) (h s : Int) (hn : n = l.length) (hm : n ≤ 9223372036854775807) (hi : Ints w a l) (B : Nat) (hB0 : B ≤ w.heap.size) (ht : TabZ B w) :
    Calls Tryd.prog 13 #[.agg #[.slice a n cap], .int .i64 h, .int .i64 s] w fun e w' => e = .returned (.int .i64 (coreE l h s)) ∧ Below w.heap.size w w' := by
  have HTZ := Lib.hid ht
  clear ht
  have HI := Lib.hid (ints_alloc hi (.cells #[.slice a n cap] 26))
  have HN := Lib.hid hn
  have C1 := newC w (.slice a n cap) 26 (n := w.heap.size) rfl
  have HB := Lib.hid (Joins.below_alloc1 w (.cells #[.slice a n cap] 26))
  have T0 := Lib.hid (Below.refl (w.alloc (.cells #[.slice a n cap] 26)).heap.size (w.alloc (.cells #[.slice a n cap] 26)))
  clear hi hn
  cases hs : quoB l h s with
  | false =>
    have HS := Lib.hid hs
    rw [show coreE l h s = -1 by unfold coreE; rw [if_neg (by unfold quoB at hs; intro hc; rw [hc.1, hc.2] at hs; cases hs)]]
    clear hs
    go_enter Tryd.func13, Tryd.ntmps13
    go_wp2_with (go_at_call 38; refine (iSS_no _ _ _ _ _ _ _ HN.out hm (HI.out.below rfl T0.out) B (Nat.le_trans hB0 (by simp)) (HTZ.out.on (HB.out.mono hB0)) HS.out).mono ?_; rintro e w1 ⟨rfl, hb1⟩; have TA := Lib.hid ((HB.out.trans (hb1.mono (by simp))).alloc (Nat.le_trans (by simp) hb1.size) (.cells #[.int .i64 0, .int .i64 0, .int .i64 0] 46)); have HAL := Lib.hid (heap_alloc_new w1 (.cells #[.int .i64 0, .int .i64 0, .int .i64 0] 46)); obtain ⟨y0, y1, y2, _, _, _⟩ := trip_cell HAL.out)
    go_ret
    exact ⟨rfl, TA.out⟩
  | true =>
    have HS := Lib.hid hs
    have hh : sgB l h = true := by unfold quoB at hs; exact (Bool.and_eq_true_iff.1 hs).1
    have h2 : isS l s = true := by unfold quoB at hs; exact (Bool.and_eq_true_iff.1 hs).2
    obtain ⟨hg, h, rfl, hhn, hh24⟩ := isS_true (sgB_is hh)
    obtain ⟨_, s, rfl, hsn, hs24⟩ := isS_true h2
    rw [show coreE l (h : Int) (s : Int) = ((coreK l h s (repsK l h (prodI l).toNat) : Nat) : Int) by unfold coreE; rw [if_pos ⟨hh, h2⟩, Int.toNat_natCast, Int.toNat_natCast]]
    have HCO := Lib.hid (fun (W : World) => iCore hg W h s hhn hs24)
    have hVl : coreK l h s (repsK l h (prodI l).toNat) < 16777216 := core_lt24 hg h s _
    obtain ⟨p, EP⟩ : ∃ p, Hid (l.getD 0 1 = p) := ⟨_, Lib.hid rfl⟩
    obtain ⟨q, EQ⟩ : ∃ q, Hid (l.getD 1 1 = q) := ⟨_, Lib.hid rfl⟩
    obtain ⟨r, ER⟩ : ∃ r, Hid (l.getD 2 1 = r) := ⟨_, Lib.hid rfl⟩
    rw [EP.out, EQ.out, ER.out] at HCO
    obtain ⟨V, EV⟩ : ∃ V, Hid (coreK l h s (repsK l h (prodI l).toNat) = V) := ⟨_, Lib.hid rfl⟩
    rw [EV.out] at HCO hVl
    rw [EV.out]
    clear hs hh h2 hg hsn hhn
    go_enter Tryd.func13, Tryd.ntmps13
    go_wp2_with (first
      | (go_at_call 40; refine (HCO.out _).mono ?_; rintro e w2 ⟨rfl, hb2⟩)
      | (go_at_call 38; refine (iSS_yes _ _ _ _ _ _ _ HN.out hm (HI.out.below rfl T0.out) B (Nat.le_trans hB0 (by simp)) (HTZ.out.on (HB.out.mono hB0)) HS.out).mono ?_; rw [EP.out, EQ.out, ER.out]; rintro e w1 ⟨rfl, hb1⟩; have TA := Lib.hid ((HB.out.trans (hb1.mono (by simp))).alloc (Nat.le_trans (by simp) hb1.size) (.cells #[.int .i64 p, .int .i64 q, .int .i64 r] 46)); have HAL := Lib.hid (heap_alloc_new w1 (.cells #[.int .i64 p, .int .i64 q, .int .i64 r] 46)); obtain ⟨y0, y1, y2, _, _, _⟩ := trip_cell HAL.out))
    go_ret
    exact ⟨rfl, TA.out.trans (hb2.mono TA.out.size)⟩
theorem quoE_no' {l : List Int} {h s : Int} (e : quoB l h s = false) : quoE l h s = [] := by unfold quoE; rw [if_neg (by simp [e])]
theorem quoE_yes' {l : List Int} {h s : Nat} (e : quoB l (h : Int) (s : Int) = true) : quoE l (h : Int) (s : Int) = NLi (quoK l h s (repsK l h (prodI l).toNat)) := by
  unfold quoE NLi
  rw [if_pos e, Int.toNat_natCast, Int.toNat_natCast]
theorem NLi_snoc (L : List Nat) (x : Nat) : NLi (L ++ [x]) = NLi L ++ [((x : Nat) : Int)] := by simp [NLi]
set_option maxHeartbeats 2000000 in
theorem iQuo (w : World) (a : Option Addr) (l : List Int) (n cap : Nat) (h s : Int) (hn : n = l.length) (hm : n ≤ 9223372036854775807) (hi : Ints w a l) (B : Nat) (hB0 : B ≤ w.heap.size) (ht : TabZ B w) :
    Calls Tryd.prog 17 #[.agg #[.slice a n cap], .int .i64 h, .int .i64 s] w fun e w' => ∃ v, e = .returned (.tuple #[v, .bool (quoB l h s)]) ∧ w'.ownsRow w.heap.size 3 1 v (quoE l h s).length ((quoE l h s).map (Value.int .i64)) ∧ Below w.heap.size w w' := by
  have HTZ := Lib.hid ht
  clear ht
  have HI := Lib.hid (ints_alloc hi (.cells #[.slice a n cap] 26))
  have HN := Lib.hid hn
  have C1 := newC w (.slice a n cap) 26 (n := w.heap.size) rfl
  have HB := Lib.hid (Joins.below_alloc1 w (.cells #[.slice a n cap] 26))
  have T0 := Lib.hid (Below.refl (w.alloc (.cells #[.slice a n cap] 26)).heap.size (w.alloc (.cells #[.slice a n cap] 26)))
  clear hi hn
  obtain ⟨i0, hi0, hz0, hz1, hz2⟩ := info_parts intInfo
  cases hs : quoB l h s with
  | false =>
    have HS := Lib.hid hs
    rw [quoE_no' hs]
    clear hs
    go_enter Tryd.func17, Tryd.ntmps17
    go_wp2_with (go_at_call 38; refine (iSS_no _ _ _ _ _ _ _ HN.out hm (HI.out.below rfl T0.out) B (Nat.le_trans hB0 (by simp)) (HTZ.out.on (HB.out.mono hB0)) HS.out).mono ?_; rintro e w1 ⟨rfl, hb1⟩; have TA := Lib.hid ((HB.out.trans (hb1.mono (by simp))).alloc (Nat.le_trans (by simp) hb1.size) (.cells #[.int .i64 0, .int .i64 0, .int .i64 0] 46)); have HAL := Lib.hid (heap_alloc_new w1 (.cells #[.int .i64 0, .int .i64 0, .int .i64 0] 46)); obtain ⟨y0, y1, y2, _, _, _⟩ := trip_cell HAL.out)
    go_ret2
    exact ⟨_, rfl, World.ownsRow_nil _ _ _ _, TA.out⟩
  | true =>
    have hs' := hs
    have HS := Lib.hid hs
    have hh : sgB l h = true := by unfold quoB at hs; exact (Bool.and_eq_true_iff.1 hs).1
    have h2 : isS l s = true := by unfold quoB at hs; exact (Bool.and_eq_true_iff.1 hs).2
    obtain ⟨hg, h, rfl, hhn, hh24⟩ := isS_true (sgB_is hh)
    obtain ⟨_, s, rfl, hsn, hs24⟩ := isS_true h2
    rw [quoE_yes' hs']
    have HCO := Lib.hid (fun (W : World) => iCosets hg W h hhn)
    have HR24 : (repsK l h (prodI l).toNat).length ≤ 24 := by
      have h1 := reps_len l h (prodI l).toNat
      have h2 := (ords_grp hg).prod
      omega
    have HG := Lib.hid hg
    have HA := Lib.hid hs24
    obtain ⟨p, EP⟩ : ∃ p, Hid (l.getD 0 1 = p) := ⟨_, Lib.hid rfl⟩
    obtain ⟨q, EQ⟩ : ∃ q, Hid (l.getD 1 1 = q) := ⟨_, Lib.hid rfl⟩
    obtain ⟨r, ER⟩ : ∃ r, Hid (l.getD 2 1 = r) := ⟨_, Lib.hid rfl⟩
    rw [EP.out, EQ.out, ER.out] at HCO
    obtain ⟨R, hR⟩ : ∃ R, repsK l h (prodI l).toNat = R := ⟨_, rfl⟩
    rw [hR] at HCO HR24
    rw [hR]
    obtain ⟨m, hmm⟩ : ∃ m, R.length = m := ⟨_, rfl⟩
    have HMM := Lib.hid hmm
    have HLEN := Lib.hid ((cosN_len l h R).trans hmm)
    rw [hmm] at HCO HR24
    clear hs hs' hh h2 hg hsn hhn hR hmm
    go_enter Tryd.func17, Tryd.ntmps17
    go_wp2_with (first
      | (go_at_call 45; refine (HCO.out _).mono ?_; rintro e w2 ⟨v2, rfl, ho2, hb2⟩; obtain ⟨a2, cap2, rfl, he2⟩ := els_own HLEN.out.symm ho2; have HE2 := Lib.hid he2; have T2 := Lib.hid (TA.out.trans (hb2.mono TA.out.size)); clear ho2 he2)
      | (go_at_call 38; refine (iSS_yes _ _ _ _ _ _ _ HN.out hm (HI.out.below rfl T0.out) B (Nat.le_trans hB0 (by simp)) (HTZ.out.on (HB.out.mono hB0)) HS.out).mono ?_; rw [EP.out, EQ.out, ER.out]; rintro e w1 ⟨rfl, hb1⟩; have TA := Lib.hid ((HB.out.trans (hb1.mono (by simp))).alloc (Nat.le_trans (by simp) hb1.size) (.cells #[.int .i64 p, .int .i64 q, .int .i64 r] 46)); have HAL := Lib.hid (heap_alloc_new w1 (.cells #[.int .i64 p, .int .i64 q, .int .i64 r] 46)); obtain ⟨y0, y1, y2, _, _, _⟩ := trip_cell HAL.out))
    go_loopw [12, 30] (fun v i wr => ∃ k : Nat, k ≤ m ∧ i = .int .i64 k ∧ wr.ownsRow w2.heap.size 3 1 v k ((NLi (quoK l h s (R.take k))).map (Value.int .i64)) ∧ Below w2.heap.size w2 wr) (fun _ i _ => m - (intOf i).toNat)
    case atStart => exact ⟨0, Nat.zero_le _, rfl, World.ownsRow_nil _ _ _ _, Below.refl _ _⟩
    case round =>
      obtain ⟨k, hk, rfl, hown, hbel⟩ := hrel
      have T4 := Lib.hid (T2.out.trans (hbel.mono (by first | exact T2.out.size | exact Nat.le_trans (by simp) T2.out.size)))
      have HOW := Lib.hid hown
      by_cases hlt : k < m
      · have hkR : k < R.length := by rw [HMM.out]; exact hlt
        have hkl : k < (cosN l h R).length := by rw [HLEN.out]; exact hlt
        rcases HE2.out with h0 | ⟨b, off, ha, hbl, hc⟩
        · rw [h0] at hkl; simp at hkl
        · subst ha
          have r1 := keepC hbel hbl (hc k hkl)
          rw [cosN_at hkR] at r1
          have hV24 : movN l h (R.getD k 0) < 16777216 := movN_lt24 HG.out h (R.getD k 0)
          have HN1 := Lib.hid (quo_next (l := l) (h := h) (a := s) hkR)
          obtain ⟨V, hV⟩ : ∃ V, movN l h (R.getD k 0) = V := ⟨_, rfl⟩
          rw [hV] at r1 hV24 HN1
          obtain ⟨Q, hQ⟩ : ∃ Q, quoK l h s (R.take k) = Q := ⟨_, rfl⟩
          rw [hQ] at HN1 HOW
          have hs24 : s < 16777216 := HA.out
          have HAN := bits_and_u64_nat V s (by omega) (by omega)
          have hle : V &&& s ≤ V := Nat.and_le_left
          obtain ⟨M, hM⟩ : ∃ M, V &&& s = M := ⟨_, rfl⟩
          rw [hM] at HAN hle HN1
          have HM24 : Hid (M < 16777216) := Lib.hid (Nat.lt_of_le_of_lt hle hV24)
          have HBL := Lib.hid hbel
          have HSZ := Lib.hid hbel.size
          have hml := bits_le M
          obtain ⟨z, hz⟩ : ∃ z, (bitsN M).length = z := ⟨_, rfl⟩
          have HZL := Lib.hid hz
          rw [hz] at HN1 hml
          clear hV hM hQ hz hkl hkR hc hbel hle hown
          go_wp2_with (first
            | (at_builtin; refine wpList_append_own _ rfl _ _ 24 rfl w2.heap.size 3 i0 (.int .i64 0) 1 8 Tryd.underlying24 hi0 hz0 hz1 hz2 rfl (by decide) _ _ _ rfl (HOW.out.alloc _) ⟨wr.heap.size, 0, none⟩ 1 1 [.int .i64 (z : Nat)] rfl rfl ?c1 ?c2 ?c3 ?c4 ?c5 ?_)
            | (go_at_call 46; refine (iCnt _ M HM24.out).mono ?_; rw [HZL.out]; rintro e w5 ⟨rfl, rfl⟩))
          case c1 =>
            intro q u2 hq
            match q, hq with
            | 0, hq => simp at hq; subst hq; simp [Addr.add]
          case c2 => intro u2 hu2; simp at hu2; subst hu2; rfl
          case c3 => unfold maxLen; omega
          case c4 => omega
          case c5 => have := HSZ.out; simp at *; omega
          intro v' w4 hown' hgrow _
          have HBW : Hid (Below w2.heap.size w2 w4) := Lib.hid ((HBL.out.alloc HSZ.out _).grown hgrow (by have := HSZ.out; simp at *; omega) (fun g hg => by have := (HOW.out.lt g hg).1; omega))
          have HOW4 : Hid (w4.ownsRow w2.heap.size 3 1 v' (k + 1) ((NLi (quoK l h s (R.take (k + 1)))).map (Value.int .i64))) := Lib.hid (by
            rw [HN1.out, NLi_snoc]
            simpa using hown')
          clear hown' hgrow
          go_wp2
          go_roundw
          case rel => exact ⟨k + 1, by omega, by go_num, HOW4.out, HBW.out⟩
          case measure => simp [intOf]; omega
      · obtain rfl : k = m := by omega
        clear hown hbel
        have hfin := HOW.out
        rw [show R.take k = R by rw [← HMM.out, List.take_length]] at hfin
        have HFIN := Lib.hid hfin
        clear hfin
        have HLL : Hid ((NLi (quoK l h s R)).length = k) := Lib.hid (by rw [NLi_len, quo_len, HMM.out])
        go_wp2
        go_ret2
        exact ⟨_, rfl, by rw [HLL.out]; exact Joins.ownsRow_le HFIN.out T2.out.size, T4.out⟩
end Go.Proofs.YtehdneppleifdaaDoor
