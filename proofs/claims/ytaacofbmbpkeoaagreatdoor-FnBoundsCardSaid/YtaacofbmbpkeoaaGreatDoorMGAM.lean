/- Merged: ShiftSet SetDil SumJ. -/
import Derived.Test.YtaacofbmbpkeoaaGreatDoorMGAK
import Derived.Test.YtaacofbmbpkeoaaGreatDoorMGAL
import Derived.Test.YtaacofbmbpkeoaaGreatDoorDil
import Derived.Test.YtaacofbmbpkeoaaGreatDoorSumI
namespace Go.Proofs.YtaacofbmbpkeoaaGreatDoor
open Go.RowKit
set_option maxRecDepth 1000000
theorem sh_tri {l : List Int} (h : grpB l = true) (x : Int) (L : List Nat) :
    orF (fun y => addN l (y : Int) x) L = orF (shF (l.getD 0 1) (l.getD 1 1) (l.getD 2 1) (x % l.getD 0 1) (x / l.getD 0 1 % l.getD 1 1) (x / l.getD 0 1 / l.getD 1 1 % l.getD 2 1)) L :=
  orF_congr _ _ L (fun y _ => by
    have := (tri_grp h).p1
    rw [add_tri (grpB_true h).1 (y : Int) x (by omega)]; rfl)
end Go.Proofs.YtaacofbmbpkeoaaGreatDoor

namespace Go.Proofs.YtaacofbmbpkeoaaGreatDoor
open Go.RowKit
set_option maxRecDepth 1000000
theorem dl_tri {l : List Int} (h : grpB l = true) (k : Int) (L : List Nat) :
    orF (fun y => mulN l (y : Int) k) L = orF (dilF (l.getD 0 1) (l.getD 1 1) (l.getD 2 1) k) L :=
  orF_congr _ _ L (fun y _ => by
    have := (tri_grp h).p1
    rw [mul_tri (grpB_true h).1 (y : Int) k (by omega)]; rfl)
set_option maxHeartbeats 1000000 in
theorem iDil (w : World) (a : Option Addr) (l : List Int) (n cap : Nat) (s x : Int) (hn : n = l.length) (hm : n ≤ 9223372036854775807) (hi : Ints w a l) (B : Nat) (hB0 : B ≤ w.heap.size) (ht : TabZ B w) :
    Calls Tryz.prog 84 #[.agg #[.slice a n cap], .int .i64 s, .int .i64 x] w fun e w' => e = .returned (.int .i64 (dlE l s x)) ∧ Below w.heap.size w w' := by
  have HTZ := Lib.hid ht
  clear ht
  have HI := Lib.hid (ints_alloc hi (.cells #[.slice a n cap] 26))
  have HN := Lib.hid hn
  have C1 := newC w (.slice a n cap) 26 (n := w.heap.size) rfl
  have HB := Lib.hid (Joins.below_alloc1 w (.cells #[.slice a n cap] 26))
  have T0 := Lib.hid (Below.refl (w.alloc (.cells #[.slice a n cap] 26)).heap.size (w.alloc (.cells #[.slice a n cap] 26)))
  clear hi hn
  cases hs : isS l s with
  | false =>
    have HS := Lib.hid hs
    rw [show dlE l s x = -1 by unfold dlE; rw [if_neg (by simp [hs])]]
    clear hs
    go_enter Tryz.func84, Tryz.ntmps84
    go_wp2_with (go_at_call 54; refine (iSetIn _ _ _ _ _ _ HN.out hm HI.out).mono ?_; unfold SetInPost; rw [HS.out]; rintro e w1 ⟨p, q, r, v, rfl, hv, hb1⟩; clear hv)
    go_ret
    exact ⟨rfl, HB.out.trans (Below.alloc (hb1.mono (by simp)) (Nat.le_trans (by simp) hb1.size) _)⟩
  | true =>
    have HS := Lib.hid hs
    obtain ⟨hg, m, rfl, _, hm24⟩ := isS_true hs
    have HT := Lib.hid (tri_grp hg)
    have HLG := Lib.hid (grpB_true hg).1
    have HP := prod_pad (grpB_true hg).1
    have HO := ordN_grp hg
    rw [HP] at HO
    obtain ⟨p, EP⟩ : ∃ p, Hid (l.getD 0 1 = p) := ⟨_, Lib.hid rfl⟩
    obtain ⟨q, EQ⟩ : ∃ q, Hid (l.getD 1 1 = q) := ⟨_, Lib.hid rfl⟩
    obtain ⟨r, ER⟩ : ∃ r, Hid (l.getD 2 1 = r) := ⟨_, Lib.hid rfl⟩
    rw [EP.out, EQ.out, ER.out] at HT HO
    have HM : Hid (m < 16777216) := Lib.hid hm24
    by_cases hk : -100 ≤ x ∧ x ≤ 100
    · have HK : Hid (true = (decide (-100 ≤ x) && decide (x ≤ 100))) := Lib.hid (by simp [hk.1, hk.2])
      rw [show dlE l m x = (orF (fun y => mulN l (y : Int) x) (bitsN m) : Nat) by unfold dlE; rw [if_pos hs, if_pos hk]; rfl]
      rw [dl_tri hg, EP.out, EQ.out, ER.out]
      have K1 := Lib.hid hk.1
      have K2 := Lib.hid hk.2
      clear hs hg hk HP HO hm24
      obtain ⟨O, HOO⟩ : ∃ O : Nat, Hid (orF (dilF p q r x) (bitsN m) = O) := ⟨_, Lib.hid rfl⟩
      have hOlt : O < 16777216 := by rw [← HOO.out]; exact orF_dil_lt HT.out _
      rw [HOO.out]
      go_enter Tryz.func84, Tryz.ntmps84
      go_wp2_with (first
        | (go_at_call 61; refine (iDilate _ _ _ _ x m HT.out HM.out K1.out K2.out B (Nat.le_trans hB0 TA.out.size) (HTZ.out.on (TA.out.mono hB0))).mono ?_; rw [HOO.out]; rintro e w3 ⟨rfl, hb3⟩)
        | (go_at_call 105; refine (iIsMul _ _ _ HK.out).mono ?_; rintro e w9 ⟨rfl, rfl⟩)
        | (go_at_call 54; refine (iSetIn _ _ _ _ _ _ HN.out hm HI.out).mono ?_; unfold SetInPost; rw [HS.out]; rintro e w1 ⟨p', q', r', v', rfl, hv, hb1⟩; obtain ⟨e1, e2, e3, e4⟩ := hv rfl; clear hv; rw [EP.out] at e1; rw [EQ.out] at e2; rw [ER.out] at e3; subst e1 e2 e3 e4; have TA := Lib.hid ((HB.out.trans (hb1.mono (by simp))).alloc (Nat.le_trans (by simp) hb1.size) (.cells #[.int .i64 p', .int .i64 q', .int .i64 r'] 41)); have R7 := Lib.hid (heap_alloc_new w1 (.cells #[.int .i64 p', .int .i64 q', .int .i64 r'] 41))))
      go_ret
      exact ⟨rfl, TA.out.trans (hb3.mono TA.out.size)⟩
    · have HK : Hid (false = (decide (-100 ≤ x) && decide (x ≤ 100))) := Lib.hid (by
        have : ¬ (-100 ≤ x) ∨ ¬ (x ≤ 100) := by omega
        rcases this with h | h <;> simp [h])
      rw [show dlE l m x = -1 by unfold dlE; rw [if_pos hs, if_neg hk]]
      clear hs hg hk HP HO hm24
      go_enter Tryz.func84, Tryz.ntmps84
      go_wp2_with (first
        | (go_at_call 105; refine (iIsMul _ _ _ HK.out).mono ?_; rintro e w9 ⟨rfl, rfl⟩)
        | (go_at_call 54; refine (iSetIn _ _ _ _ _ _ HN.out hm HI.out).mono ?_; unfold SetInPost; rw [HS.out]; rintro e w1 ⟨p', q', r', v', rfl, hv, hb1⟩; obtain ⟨e1, e2, e3, e4⟩ := hv rfl; clear hv; rw [EP.out] at e1; rw [EQ.out] at e2; rw [ER.out] at e3; subst e1 e2 e3 e4; have TA := Lib.hid ((HB.out.trans (hb1.mono (by simp))).alloc (Nat.le_trans (by simp) hb1.size) (.cells #[.int .i64 p', .int .i64 q', .int .i64 r'] 41)); have R7 := Lib.hid (heap_alloc_new w1 (.cells #[.int .i64 p', .int .i64 q', .int .i64 r'] 41))))
      go_ret
      exact ⟨rfl, TA.out⟩
theorem iNegS (w : World) (a : Option Addr) (l : List Int) (n cap : Nat) (s : Int) (hn : n = l.length) (hm : n ≤ 9223372036854775807) (hi : Ints w a l) (B : Nat) (hB0 : B ≤ w.heap.size) (ht : TabZ B w) :
    Calls Tryz.prog 58 #[.agg #[.slice a n cap], .int .i64 s] w fun e w' => e = .returned (.int .i64 (ngE l s)) ∧ Below w.heap.size w w' := by
  have HTZ := Lib.hid ht
  clear ht
  rw [show ngE l s = dlE l s (-1) by unfold ngE dlE negN; split <;> rfl]
  have HI := Lib.hid (ints_alloc hi (.cells #[.slice a n cap] 26))
  have HN := Lib.hid hn
  have C1 := newC w (.slice a n cap) 26 (n := w.heap.size) rfl
  have HB := Lib.hid (Joins.below_alloc1 w (.cells #[.slice a n cap] 26))
  have T0 := Lib.hid (Below.refl (w.alloc (.cells #[.slice a n cap] 26)).heap.size (w.alloc (.cells #[.slice a n cap] 26)))
  clear hi hn
  go_enter Tryz.func58, Tryz.ntmps58
  go_wp2_with (go_at_call 84; refine (iDil _ _ _ _ _ _ _ HN.out hm HI.out B (Nat.le_trans hB0 (by simp)) (HTZ.out.on (HB.out.mono hB0))).mono ?_; rintro e w1 ⟨rfl, hb1⟩)
  go_ret
  exact ⟨rfl, HB.out.trans (hb1.mono (by simp <;> omega))⟩
end Go.Proofs.YtaacofbmbpkeoaaGreatDoor

namespace Go.Proofs.YtaacofbmbpkeoaaGreatDoor
open Go.RowKit
set_option maxRecDepth 1000000
/-- What setsIn answers. -/
def SetsInPost (l : List Int) (s t : Int) (w : World) (e : Ending) (w' : World) : Prop :=
  ∃ p q r u v, e = .returned (.tuple #[tV p q r, .int .u64 u, .int .u64 v, .bool (two l s t)]) ∧ (two l s t = true → p = l.getD 0 1 ∧ q = l.getD 1 1 ∧ r = l.getD 2 1 ∧ u = s ∧ v = t) ∧ Below w.heap.size w w'
set_option maxHeartbeats 4000000 in
theorem iSetsIn (w : World) (a : Option Addr) (l : List Int) (n cap : Nat) (s t : Int) (hn : n = l.length) (hm : n ≤ 9223372036854775807) (hi : Ints w a l) :
    Calls Tryz.prog 39 #[.agg #[.slice a n cap], .int .i64 s, .int .i64 t] w (SetsInPost l s t w) := by
  unfold SetsInPost
  have HI := Lib.hid (ints_alloc (ints_alloc hi (.cells #[.slice a n cap] 26)) (.cells #[.int .i64 0, .int .i64 0, .int .i64 0] 41))
  have HN := Lib.hid hn
  have C1 := keepC (Joins.below_alloc1 _ (.cells #[.int .i64 0, .int .i64 0, .int .i64 0] 41)) (by simp <;> omega) (newC w (.slice a n cap) 26 (n := w.heap.size) rfl)
  have HB := Lib.hid (Joins.below_alloc2 w (.cells #[.slice a n cap] 26) (.cells #[.int .i64 0, .int .i64 0, .int .i64 0] 41))
  have R1 : Hid (((w.alloc (.cells #[.slice a n cap] 26)).alloc (.cells #[.int .i64 0, .int .i64 0, .int .i64 0] 41)).heap[w.heap.size + 1]? = some (.cells #[.int .i64 0, .int .i64 0, .int .i64 0] 41 (0, 0))) := Lib.hid (by simpa using heap_alloc_new (w.alloc (.cells #[.slice a n cap] 26)) (.cells #[.int .i64 0, .int .i64 0, .int .i64 0] 41))
  have T0 := Lib.hid (Below.refl ((w.alloc (.cells #[.slice a n cap] 26)).alloc (.cells #[.int .i64 0, .int .i64 0, .int .i64 0] 41)).heap.size ((w.alloc (.cells #[.slice a n cap] 26)).alloc (.cells #[.int .i64 0, .int .i64 0, .int .i64 0] 41)))
  clear hi hn
  obtain ⟨p, EP⟩ : ∃ p, Hid (l.getD 0 1 = p) := ⟨_, Lib.hid rfl⟩
  obtain ⟨q, EQ⟩ : ∃ q, Hid (l.getD 1 1 = q) := ⟨_, Lib.hid rfl⟩
  obtain ⟨r, ER⟩ : ∃ r, Hid (l.getD 2 1 = r) := ⟨_, Lib.hid rfl⟩
  cases hs : isS l s with
  | false =>
    have HS := Lib.hid hs
    rw [show two l s t = false by unfold two; rw [hs]; rfl]
    cases ht : isS l t with
    | false =>
      have HS2 := Lib.hid ht
      clear hs ht
      go_enter Tryz.func39, Tryz.ntmps39
      go_wp2_with (first
        | (go_at_call 54; have hx_ := T1; clear hx_; refine (iSetIn_no _ _ _ _ _ _ HN.out hm (HI.out.below rfl T1.out) HS2.out).mono ?_; rintro e w2 ⟨rfl, hb2⟩; have S2 := Lib.hid (T1.out.trans (hb2.mono T1.out.size)); have T2 := Lib.hid (S2.out.alloc S2.out.size (.cells #[.int .i64 0, .int .i64 0, .int .i64 0] 41)); have cs2 := keepC S2.out (by simp <;> omega) C1; have c2 := keepC T2.out (by simp <;> omega) C1; have R8 := Lib.hid (heap_alloc_new w2 (.cells #[.int .i64 0, .int .i64 0, .int .i64 0] 41)); obtain ⟨x20, x21, x22, x2f0, x2f1, x2f2⟩ := trip_cell (keepH T2.out (by simp <;> omega) R1.out); obtain ⟨y0, y1, y2, yf0, yf1, yf2⟩ := trip_cell (keepH (hb2.alloc hb2.size (.cells #[.int .i64 0, .int .i64 0, .int .i64 0] 41)) (by simp <;> omega) R7.out))
        | (go_at_call 54; refine (iSetIn_no _ _ _ _ _ _ HN.out hm (HI.out.below rfl T0.out) HS.out).mono ?_; rintro e w1 ⟨rfl, hb1⟩; have S1 := Lib.hid (T0.out.trans (hb1.mono T0.out.size)); have T1 := Lib.hid (S1.out.alloc S1.out.size (.cells #[.int .i64 0, .int .i64 0, .int .i64 0] 41)); have cs1 := keepC S1.out (by simp <;> omega) C1; have c1 := keepC T1.out (by simp <;> omega) C1; have R7 := Lib.hid (heap_alloc_new w1 (.cells #[.int .i64 0, .int .i64 0, .int .i64 0] 41)); obtain ⟨x10, x11, x12, x1f0, x1f1, x1f2⟩ := trip_cell (keepH T1.out (by simp <;> omega) R1.out)))
      refine bodyPost_ret (v := .tuple #[tV 0 0 0, .int .u64 0, .int .u64 0, .bool false]) (by simp [results, Tryz.results39, go_sem, x20, x21, x22]) rfl ⟨_, _, _, _, _, rfl, (fun h => by cases h), below_set3 (HB.out.trans (T2.out.mono (by simp <;> omega))) (by omega)⟩
    | true =>
      have HS2 := Lib.hid ht
      clear hs ht
      go_enter Tryz.func39, Tryz.ntmps39
      go_wp2_with (first
        | (go_at_call 54; have hx_ := T1; clear hx_; refine (iSetIn_yes _ _ _ _ _ _ HN.out hm (HI.out.below rfl T1.out) HS2.out).mono ?_; rw [EP.out, EQ.out, ER.out]; rintro e w2 ⟨rfl, hb2⟩; have S2 := Lib.hid (T1.out.trans (hb2.mono T1.out.size)); have T2 := Lib.hid (S2.out.alloc S2.out.size (.cells #[.int .i64 p, .int .i64 q, .int .i64 r] 41)); have cs2 := keepC S2.out (by simp <;> omega) C1; have c2 := keepC T2.out (by simp <;> omega) C1; have R8 := Lib.hid (heap_alloc_new w2 (.cells #[.int .i64 p, .int .i64 q, .int .i64 r] 41)); obtain ⟨x20, x21, x22, x2f0, x2f1, x2f2⟩ := trip_cell (keepH T2.out (by simp <;> omega) R1.out); obtain ⟨y0, y1, y2, yf0, yf1, yf2⟩ := trip_cell (keepH (hb2.alloc hb2.size (.cells #[.int .i64 p, .int .i64 q, .int .i64 r] 41)) (by simp <;> omega) R7.out))
        | (go_at_call 54; refine (iSetIn_no _ _ _ _ _ _ HN.out hm (HI.out.below rfl T0.out) HS.out).mono ?_; rintro e w1 ⟨rfl, hb1⟩; have S1 := Lib.hid (T0.out.trans (hb1.mono T0.out.size)); have T1 := Lib.hid (S1.out.alloc S1.out.size (.cells #[.int .i64 0, .int .i64 0, .int .i64 0] 41)); have cs1 := keepC S1.out (by simp <;> omega) C1; have c1 := keepC T1.out (by simp <;> omega) C1; have R7 := Lib.hid (heap_alloc_new w1 (.cells #[.int .i64 0, .int .i64 0, .int .i64 0] 41)); obtain ⟨x10, x11, x12, x1f0, x1f1, x1f2⟩ := trip_cell (keepH T1.out (by simp <;> omega) R1.out)))
      refine bodyPost_ret (v := .tuple #[tV 0 0 0, .int .u64 0, .int .u64 0, .bool false]) (by simp [results, Tryz.results39, go_sem, x20, x21, x22]) rfl ⟨_, _, _, _, _, rfl, (fun h => by cases h), below_set3 (HB.out.trans (T2.out.mono (by simp <;> omega))) (by omega)⟩
  | true =>
    have HS := Lib.hid hs
    cases ht : isS l t with
    | false =>
      have HS2 := Lib.hid ht
      rw [show two l s t = false by unfold two; rw [hs, ht]; rfl]
      clear hs ht
      go_enter Tryz.func39, Tryz.ntmps39
      go_wp2_with (first
        | (go_at_call 54; have hx_ := T1; clear hx_; refine (iSetIn_no _ _ _ _ _ _ HN.out hm (HI.out.below rfl T1.out) HS2.out).mono ?_; rintro e w2 ⟨rfl, hb2⟩; have S2 := Lib.hid (T1.out.trans (hb2.mono T1.out.size)); have T2 := Lib.hid (S2.out.alloc S2.out.size (.cells #[.int .i64 0, .int .i64 0, .int .i64 0] 41)); have cs2 := keepC S2.out (by simp <;> omega) C1; have c2 := keepC T2.out (by simp <;> omega) C1; have R8 := Lib.hid (heap_alloc_new w2 (.cells #[.int .i64 0, .int .i64 0, .int .i64 0] 41)); obtain ⟨x20, x21, x22, x2f0, x2f1, x2f2⟩ := trip_cell (keepH T2.out (by simp <;> omega) R1.out); obtain ⟨y0, y1, y2, yf0, yf1, yf2⟩ := trip_cell (keepH (hb2.alloc hb2.size (.cells #[.int .i64 0, .int .i64 0, .int .i64 0] 41)) (by simp <;> omega) R7.out))
        | (go_at_call 54; refine (iSetIn_yes _ _ _ _ _ _ HN.out hm (HI.out.below rfl T0.out) HS.out).mono ?_; rw [EP.out, EQ.out, ER.out]; rintro e w1 ⟨rfl, hb1⟩; have S1 := Lib.hid (T0.out.trans (hb1.mono T0.out.size)); have T1 := Lib.hid (S1.out.alloc S1.out.size (.cells #[.int .i64 p, .int .i64 q, .int .i64 r] 41)); have cs1 := keepC S1.out (by simp <;> omega) C1; have c1 := keepC T1.out (by simp <;> omega) C1; have R7 := Lib.hid (heap_alloc_new w1 (.cells #[.int .i64 p, .int .i64 q, .int .i64 r] 41)); obtain ⟨x10, x11, x12, x1f0, x1f1, x1f2⟩ := trip_cell (keepH T1.out (by simp <;> omega) R1.out)))
      refine bodyPost_ret (v := .tuple #[tV 0 0 0, .int .u64 0, .int .u64 0, .bool false]) (by simp [results, Tryz.results39, go_sem, x20, x21, x22]) rfl ⟨_, _, _, _, _, rfl, (fun h => by cases h), below_set3 (HB.out.trans (T2.out.mono (by simp <;> omega))) (by omega)⟩
    | true =>
      have HS2 := Lib.hid ht
      rw [show two l s t = true by unfold two; rw [hs, ht]; rfl]
      clear hs ht
      go_enter Tryz.func39, Tryz.ntmps39
      go_wp2_with (first
        | (go_at_call 54; have hx_ := T1; clear hx_; refine (iSetIn_yes _ _ _ _ _ _ HN.out hm (HI.out.below rfl T1.out) HS2.out).mono ?_; rw [EP.out, EQ.out, ER.out]; rintro e w2 ⟨rfl, hb2⟩; have S2 := Lib.hid (T1.out.trans (hb2.mono T1.out.size)); have T2 := Lib.hid (S2.out.alloc S2.out.size (.cells #[.int .i64 p, .int .i64 q, .int .i64 r] 41)); have cs2 := keepC S2.out (by simp <;> omega) C1; have c2 := keepC T2.out (by simp <;> omega) C1; have R8 := Lib.hid (heap_alloc_new w2 (.cells #[.int .i64 p, .int .i64 q, .int .i64 r] 41)); obtain ⟨x20, x21, x22, x2f0, x2f1, x2f2⟩ := trip_cell (keepH T2.out (by simp <;> omega) R1.out); obtain ⟨y0, y1, y2, yf0, yf1, yf2⟩ := trip_cell (keepH (hb2.alloc hb2.size (.cells #[.int .i64 p, .int .i64 q, .int .i64 r] 41)) (by simp <;> omega) R7.out))
        | (go_at_call 54; refine (iSetIn_yes _ _ _ _ _ _ HN.out hm (HI.out.below rfl T0.out) HS.out).mono ?_; rw [EP.out, EQ.out, ER.out]; rintro e w1 ⟨rfl, hb1⟩; have S1 := Lib.hid (T0.out.trans (hb1.mono T0.out.size)); have T1 := Lib.hid (S1.out.alloc S1.out.size (.cells #[.int .i64 p, .int .i64 q, .int .i64 r] 41)); have cs1 := keepC S1.out (by simp <;> omega) C1; have c1 := keepC T1.out (by simp <;> omega) C1; have R7 := Lib.hid (heap_alloc_new w1 (.cells #[.int .i64 p, .int .i64 q, .int .i64 r] 41)); obtain ⟨x10, x11, x12, x1f0, x1f1, x1f2⟩ := trip_cell (keepH T1.out (by simp <;> omega) R1.out)))
      refine bodyPost_ret (v := .tuple #[tV p q r, .int .u64 s, .int .u64 t, .bool true]) (by simp [results, Tryz.results39, go_sem, x20, x21, x22]) rfl ⟨_, _, _, _, _, rfl, fun _ => ⟨EP.out.symm, EQ.out.symm, ER.out.symm, rfl, rfl⟩, below_set3 (HB.out.trans (T2.out.mono (by simp <;> omega))) (by omega)⟩
end Go.Proofs.YtaacofbmbpkeoaaGreatDoor
