/- The contracts of the program's own functions on groups: multiples and negatives of elements. -/
import Derived.Test.YticgoodmfjjggaaGreatDoorGrpFun
namespace Go.Proofs.YticgoodmfjjggaaGreatDoor
open Go.RowKit
set_option maxRecDepth 1000000
theorem prod_bnd {t c k : Int} (h0 : 0 ≤ t) (h1 : t < c) (hc : c ≤ 24) (k1 : -100 ≤ k) (k2 : k ≤ 100) : -2300 ≤ t * k ∧ t * k ≤ 2300 := by
  have a1 : t * k ≤ t * 100 := Int.mul_le_mul_of_nonneg_left k2 h0
  have a2 : t * -100 ≤ t * k := Int.mul_le_mul_of_nonneg_left k1 h0
  omega
theorem tmod_bnd (a : Int) {c : Int} (h : 1 ≤ c) : -c < a.tmod c ∧ a.tmod c < c := by
  have := Int.tmod_lt_of_pos a (show 0 < c by omega)
  have h2 := Int.tmod_lt_of_pos (-a) (show 0 < c by omega)
  rw [Int.neg_tmod] at h2
  omega
theorem tmod_fix (a c : Int) : a.tmod c % c = a % c := by
  have h1 := Int.mul_tdiv_add_tmod a c
  calc a.tmod c % c = (c * a.tdiv c + a.tmod c) % c := by rw [Int.mul_add_emod_self_left]
    _ = a % c := by rw [h1]
theorem iIsMul (w : World) (k : Int) (r : Bool) (h : r = (decide (-100 ≤ k) && decide (k ≤ 100))) :
    Calls Tryz.prog 75 #[.int .i64 k] w fun e w' => e = .returned (.bool r) ∧ w = w' := by
  subst h
  by_cases h1 : -100 ≤ k <;> by_cases h2 : k ≤ 100 <;> simp only [h1, h2, decide_true, decide_false, Bool.and_true, Bool.and_false]
  all_goals
    go_enter Tryz.func75, Tryz.ntmps75
    go_wp2
    go_ret
    exact ⟨rfl, rfl⟩
theorem iMulti (w : World) (p q r u v s k : Int) (h : Tri p q r) (ha : 0 ≤ u ∧ u < p) (hb : 0 ≤ v ∧ v < q) (hc : 0 ≤ s ∧ s < r) (k1 : -100 ≤ k) (k2 : k ≤ 100) :
    Calls Tryz.prog 76 #[tV p q r, tV u v s, .int .i64 k] w fun e w' => e = .returned (tV (u * k % p) (v * k % q) (s * k % r)) ∧ Below w.heap.size w w' := by
  obtain ⟨p1, p2, q1, q2, r1, r2, h7, h8, h9, h10⟩ := h
  obtain ⟨a1, a2⟩ := prod_bnd ha.1 ha.2 p2 k1 k2
  obtain ⟨b1, b2⟩ := prod_bnd hb.1 hb.2 q2 k1 k2
  obtain ⟨d1, d2⟩ := prod_bnd hc.1 hc.2 r2 k1 k2
  obtain ⟨a3, a4⟩ := tmod_bnd (u * k) p1
  obtain ⟨b3, b4⟩ := tmod_bnd (v * k) q1
  obtain ⟨d3, d4⟩ := tmod_bnd (s * k) r1
  have X0 := ix0 p q r
  have X1 := ix1 p q r
  have X2 := ix2 p q r
  rw [← tmod_fix (u * k), ← tmod_fix (v * k), ← tmod_fix (s * k)]
  go_enter Tryz.func76, Tryz.ntmps76
  go_wp2
  refine wp_loop_rounds 4 ?_
  rw [rounds_succ]; go_wp2
  rw [rounds_succ]; go_wp2
  rw [rounds_succ]; go_wp2
  rw [rounds_succ]; go_wp2
  refine bodyPost_ret (v := tV ((u * k).tmod p % p) ((v * k).tmod q % q) ((s * k).tmod r % r)) (by simp [results, Tryz.results76, go_sem]) rfl ⟨rfl, ?_⟩
  first
    | exact Joins.below_alloc3 w _ _ _
    | exact Joins.below_alloc2 w _ _
    | exact Joins.below_alloc1 w _
set_option maxHeartbeats 1000000 in
theorem iMulE (w : World) (a : Option Addr) (l : List Int) (n cap : Nat) (x k : Int) (hn : n = l.length) (hm : n ≤ 9223372036854775807) (hi : Ints w a l) :
    Calls Tryz.prog 18 #[.agg #[.slice a n cap], .int .i64 x, .int .i64 k] w fun e w' => e = .returned (.int .i64 (mulE l x k)) ∧ Below w.heap.size w w' := by
  have HI := Lib.hid (ints_alloc hi (.cells #[.slice a n cap] 26))
  have HN := Lib.hid hn
  have C1 := newC w (.slice a n cap) 26 (n := w.heap.size) rfl
  have HB := Lib.hid (Joins.below_alloc1 w (.cells #[.slice a n cap] 26))
  have T0 := Lib.hid (Below.refl (w.alloc (.cells #[.slice a n cap] 26)).heap.size (w.alloc (.cells #[.slice a n cap] 26)))
  clear hi hn
  cases hx : isE l x with
  | false =>
    have HX := Lib.hid hx
    rw [show mulE l x k = -1 by unfold mulE; rw [if_neg (by simp [hx])]]
    clear hx
    go_enter Tryz.func18, Tryz.ntmps18
    go_wp2_with (first
      | (go_at_call 66; refine (iIn _ _ _ _ _ x HN.out hm (HI.out.below rfl T0.out)).mono ?_; unfold InPost; rw [HX.out]; rintro e w1 ⟨p, q, r, u, v, s, rfl, hv1, hb1⟩; clear hv1; have T1 := Lib.hid (T0.out.trans (hb1.mono T0.out.size)); have T1a := Lib.hid (T1.out.alloc T1.out.size (.cells #[.int .i64 p, .int .i64 q, .int .i64 r] 58)); have T1b := Lib.hid (T1a.out.alloc T1a.out.size (.cells #[.int .i64 u, .int .i64 v, .int .i64 s] 58)); have N1 := Lib.hid (keepH (Joins.below_alloc1 _ (.cells #[.int .i64 u, .int .i64 v, .int .i64 s] 58)) (by simp) (heap_alloc_new w1 (.cells #[.int .i64 p, .int .i64 q, .int .i64 r] 58))); have M1 : Hid (((w1.alloc (.cells #[.int .i64 p, .int .i64 q, .int .i64 r] 58)).alloc (.cells #[.int .i64 u, .int .i64 v, .int .i64 s] 58)).heap[w1.heap.size + 1]? = some (.cells #[.int .i64 u, .int .i64 v, .int .i64 s] 58 (0, 0))) := Lib.hid (by simpa using heap_alloc_new (w1.alloc (.cells #[.int .i64 p, .int .i64 q, .int .i64 r] 58)) (.cells #[.int .i64 u, .int .i64 v, .int .i64 s] 58)); have c1 := keepC T1.out (by simp <;> omega) C1; have c1b := keepC T1b.out (by simp <;> omega) C1))
    go_ret
    exact ⟨rfl, HB.out.trans (T1b.out.mono (by simp <;> omega))⟩
  | true =>
    have HX := Lib.hid hx
    by_cases hk : -100 ≤ k ∧ k ≤ 100
    · obtain ⟨k1, k2⟩ := hk
      have BX := isE_true hx
      have HT := Lib.hid (tri_grp BX.1)
      have HF : Hid (mulE l x k = mulN l x k) := Lib.hid (by unfold mulE; rw [if_pos hx, if_pos ⟨k1, k2⟩])
      have HF2 := Lib.hid (mul_tri (grpB_true BX.1).1 x k (by have := HT.out.p1; omega))
      have HK : Hid (true = (decide (-100 ≤ k) && decide (k ≤ 100))) := Lib.hid (by simp [k1, k2])
      have K1 := Lib.hid k1
      have K2 := Lib.hid k2
      clear hx BX k1 k2
      go_enter Tryz.func18, Tryz.ntmps18
      go_wp2_with (first
        | (go_at_call 66; refine (iIn _ _ _ _ _ x HN.out hm (HI.out.below rfl T0.out)).mono ?_; unfold InPost; rw [HX.out]; rintro e w1 ⟨p, q, r, u, v, s, rfl, hv1, hb1⟩; obtain ⟨e1, e2, e3, e4, e5, e6⟩ := hv1 rfl; have HV1 := Lib.hid (And.intro e1 (And.intro e2 (And.intro e3 (And.intro e4 (And.intro e5 e6))))); clear e1 e2 e3 e4 e5 e6; clear hv1; have T1 := Lib.hid (T0.out.trans (hb1.mono T0.out.size)); have T1a := Lib.hid (T1.out.alloc T1.out.size (.cells #[.int .i64 p, .int .i64 q, .int .i64 r] 58)); have T1b := Lib.hid (T1a.out.alloc T1a.out.size (.cells #[.int .i64 u, .int .i64 v, .int .i64 s] 58)); have N1 := Lib.hid (keepH (Joins.below_alloc1 _ (.cells #[.int .i64 u, .int .i64 v, .int .i64 s] 58)) (by simp) (heap_alloc_new w1 (.cells #[.int .i64 p, .int .i64 q, .int .i64 r] 58))); have M1 : Hid (((w1.alloc (.cells #[.int .i64 p, .int .i64 q, .int .i64 r] 58)).alloc (.cells #[.int .i64 u, .int .i64 v, .int .i64 s] 58)).heap[w1.heap.size + 1]? = some (.cells #[.int .i64 u, .int .i64 v, .int .i64 s] 58 (0, 0))) := Lib.hid (by simpa using heap_alloc_new (w1.alloc (.cells #[.int .i64 p, .int .i64 q, .int .i64 r] 58)) (.cells #[.int .i64 u, .int .i64 v, .int .i64 s] 58)); have c1 := keepC T1.out (by simp <;> omega) C1; have c1b := keepC T1b.out (by simp <;> omega) C1)
        | (go_at_call 75; refine (iIsMul _ _ _ HK.out).mono ?_; rintro e w9 ⟨rfl, rfl⟩))
      rw [← HV1.out.1, ← HV1.out.2.1, ← HV1.out.2.2.1] at HT
      have BU := Lib.hid (show (0 ≤ u ∧ u < p) ∧ (0 ≤ v ∧ v < q) ∧ (0 ≤ s ∧ s < r) by
        obtain ⟨e1, e2, e3, e4, e5, e6⟩ := HV1.out
        rw [e4, e5, e6, ← e1, ← e2, ← e3]
        exact ⟨emod_b HT.out.p1, emod_b HT.out.q1, emod_b HT.out.r1⟩)
      have HR : Hid (mulE l x k = u * k % p + p * (v * k % q) + p * q * (s * k % r)) := Lib.hid (by
        obtain ⟨e1, e2, e3, e4, e5, e6⟩ := HV1.out
        rw [HF.out, HF2.out, e4, e5, e6, e1, e2, e3])
      have TD := Lib.hid T1b.out.drew
      obtain ⟨ta0, ta1, ta2, taf0, taf1, taf2⟩ := trip_cell N1.out
      obtain ⟨tb0, tb1, tb2, tbf0, tbf1, tbf2⟩ := trip_cell M1.out
      have L0 := Lib.hid (Below.drew (Below.refl ((w1.alloc (.cells #[.int .i64 p, .int .i64 q, .int .i64 r] 58)).alloc (.cells #[.int .i64 u, .int .i64 v, .int .i64 s] 58)).heap.size ((w1.alloc (.cells #[.int .i64 p, .int .i64 q, .int .i64 r] 58)).alloc (.cells #[.int .i64 u, .int .i64 v, .int .i64 s] 58))))
      go_region_held3 (fun W => W.cell? ⟨w1.heap.size, 0, none⟩ = some (.int .i64 p) ∧ W.cell? ⟨w1.heap.size, 1, none⟩ = some (.int .i64 q) ∧ W.cell? ⟨w1.heap.size, 2, none⟩ = some (.int .i64 r) ∧ W.cell? ⟨w1.heap.size + 1, 0, none⟩ = some (.int .i64 u) ∧ W.cell? ⟨w1.heap.size + 1, 1, none⟩ = some (.int .i64 v) ∧ W.cell? ⟨w1.heap.size + 1, 2, none⟩ = some (.int .i64 s))
        (first | exact ⟨tg0, tg1, tg2, th0, th1, th2⟩ | exact ⟨td0, td1, td2, te0, te1, te2⟩ | exact ⟨ta0, ta1, ta2, tb0, tb1, tb2⟩)
        (first
        | (go_at_call 67; refine (iElement _ _ _ _ _ _ _ HT.out (emod_b HT.out.p1) (emod_b HT.out.q1) (emod_b HT.out.r1)).mono ?_; rintro e w4 ⟨rfl, hb4⟩; have T4 := Lib.hid (T3.out.trans (hb4.mono T3.out.size)); have LE := Lib.hid (L3.out.trans (hb4.mono L3.out.size)); obtain ⟨tg0, tg1, tg2, tgf0, tgf1, tgf2⟩ := trip_cell (keepH LE.out (by simp <;> omega) N1.out); obtain ⟨th0, th1, th2, thf0, thf1, thf2⟩ := trip_cell (keepH LE.out (by simp <;> omega) M1.out))
        | (go_at_call 76; refine (iMulti _ _ _ _ _ _ _ _ HT.out BU.out.1 BU.out.2.1 BU.out.2.2 K1.out K2.out).mono ?_; rintro e w3 ⟨rfl, hb3⟩; have T3 := Lib.hid (TD.out.trans (hb3.mono TD.out.size)); have L3 := Lib.hid (L0.out.trans (hb3.mono L0.out.size)); obtain ⟨td0, td1, td2, tdf0, tdf1, tdf2⟩ := trip_cell (keepH L3.out (by simp <;> omega) N1.out); obtain ⟨te0, te1, te2, tef0, tef1, tef2⟩ := trip_cell (keepH L3.out (by simp <;> omega) M1.out)))
      go_wp2
      go_ret
      exact ⟨by rw [HR.out]; rfl, HB.out.trans (T4.out.mono (by simp <;> omega))⟩
    · rw [show mulE l x k = -1 by unfold mulE; rw [if_pos hx, if_neg hk]]
      have HK : Hid (false = (decide (-100 ≤ k) && decide (k ≤ 100))) := Lib.hid (by
        have : ¬ (-100 ≤ k) ∨ ¬ (k ≤ 100) := by omega
        rcases this with h | h <;> simp [h])
      clear hx hk
      go_enter Tryz.func18, Tryz.ntmps18
      go_wp2_with (first
        | (go_at_call 66; refine (iIn _ _ _ _ _ x HN.out hm (HI.out.below rfl T0.out)).mono ?_; unfold InPost; rw [HX.out]; rintro e w1 ⟨p, q, r, u, v, s, rfl, hv1, hb1⟩; clear hv1; have T1 := Lib.hid (T0.out.trans (hb1.mono T0.out.size)); have T1a := Lib.hid (T1.out.alloc T1.out.size (.cells #[.int .i64 p, .int .i64 q, .int .i64 r] 58)); have T1b := Lib.hid (T1a.out.alloc T1a.out.size (.cells #[.int .i64 u, .int .i64 v, .int .i64 s] 58)); have N1 := Lib.hid (keepH (Joins.below_alloc1 _ (.cells #[.int .i64 u, .int .i64 v, .int .i64 s] 58)) (by simp) (heap_alloc_new w1 (.cells #[.int .i64 p, .int .i64 q, .int .i64 r] 58))); have M1 : Hid (((w1.alloc (.cells #[.int .i64 p, .int .i64 q, .int .i64 r] 58)).alloc (.cells #[.int .i64 u, .int .i64 v, .int .i64 s] 58)).heap[w1.heap.size + 1]? = some (.cells #[.int .i64 u, .int .i64 v, .int .i64 s] 58 (0, 0))) := Lib.hid (by simpa using heap_alloc_new (w1.alloc (.cells #[.int .i64 p, .int .i64 q, .int .i64 r] 58)) (.cells #[.int .i64 u, .int .i64 v, .int .i64 s] 58)); have c1 := keepC T1.out (by simp <;> omega) C1; have c1b := keepC T1b.out (by simp <;> omega) C1)
        | (go_at_call 75; refine (iIsMul _ _ _ HK.out).mono ?_; rintro e w9 ⟨rfl, rfl⟩))
      go_ret
      exact ⟨rfl, HB.out.trans (T1b.out.mono (by simp <;> omega))⟩
theorem iNegE (w : World) (a : Option Addr) (l : List Int) (n cap : Nat) (x : Int) (hn : n = l.length) (hm : n ≤ 9223372036854775807) (hi : Ints w a l) :
    Calls Tryz.prog 13 #[.agg #[.slice a n cap], .int .i64 x] w fun e w' => e = .returned (.int .i64 (negE l x)) ∧ Below w.heap.size w w' := by
  rw [show negE l x = mulE l x (-1) by unfold negE mulE negN; split <;> rfl]
  have HI := Lib.hid (ints_alloc hi (.cells #[.slice a n cap] 26))
  have HN := Lib.hid hn
  have C1 := newC w (.slice a n cap) 26 (n := w.heap.size) rfl
  have HB := Lib.hid (Joins.below_alloc1 w (.cells #[.slice a n cap] 26))
  have T0 := Lib.hid (Below.refl (w.alloc (.cells #[.slice a n cap] 26)).heap.size (w.alloc (.cells #[.slice a n cap] 26)))
  clear hi hn
  go_enter Tryz.func13, Tryz.ntmps13
  go_wp2_with (first
    | (go_at_call 18; refine (iMulE _ _ _ _ _ _ _ HN.out hm HI.out).mono ?_; rintro e w1 ⟨rfl, hb1⟩))
  go_ret
  exact ⟨rfl, HB.out.trans (hb1.mono (by simp <;> omega))⟩
end Go.Proofs.YticgoodmfjjggaaGreatDoor
