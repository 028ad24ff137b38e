/- The contracts of the program's own functions on groups: multiples and negatives of elements. -/
import Derived.Test.YtnacckpagbcllaaGrpFun
namespace Go.Proofs.Ytnacckpagbcllaa
open Go.RowKit
theorem prod_bnd {t c k : Int} (h0 : 0 ≤ t) (h1 : t < c) (hc : c ≤ 24) (k1 : -100 ≤ k) (k2 : k ≤ 100) : -2300 ≤ t * k ∧ t * k ≤ 2300 := by
  have a1 : t * k ≤ t * 100 := Int.mul_le_mul_of_nonneg_left k2 h0
  have a2 : t * -100 ≤ t * k := Int.mul_le_mul_of_nonneg_left k1 h0
  omega
theorem tmod_bnd (a : Int) {c : Int} (h : 1 ≤ c) : -c < a.tmod c ∧ a.tmod c < c := by
  have := Int.tmod_lt_of_pos a (show 0 < c by omega)
  have h2 := Int.tmod_lt_of_pos (-a) (show 0 < c by omega)
  rw [Int.neg_tmod] at h2
  omega
theorem tmod_fix (a c : Int) : a.tmod c % c = a % c := by
  have h1 := Int.mul_tdiv_add_tmod a c
  calc a.tmod c % c = (c * a.tdiv c + a.tmod c) % c := by rw [Int.mul_add_emod_self_left]
    _ = a % c := by rw [h1]
set_option maxHeartbeats 1000000 in
theorem iMulE (w : World) (a : Option Addr) (l : List Int) (n cap : Nat) (x k : Int) (hn : n = l.length) (hm : n ≤ 9223372036854775807) (hi : Ints w a l) :
    Calls Try.prog 33 #[.agg #[.slice a n cap], .int .i64 x, .int .i64 k] w fun e w' => e = .returned (.int .i64 (mulE l x k)) ∧ Below w.heap.size w w' := by
  have HI := Lib.hid (ints_alloc hi (.cells #[.slice a n cap] 27))
  have HN := Lib.hid hn
  have C1 := newC w (.slice a n cap) 27 (n := w.heap.size) rfl
  have HB := Lib.hid (Joins.below_alloc1 w (.cells #[.slice a n cap] 27))
  have T0 := Lib.hid (Below.refl (w.alloc (.cells #[.slice a n cap] 27)).heap.size (w.alloc (.cells #[.slice a n cap] 27)))
  clear hi hn
  cases hx : isE l x with
  | false =>
    have HX := Lib.hid hx
    rw [show mulE l x k = -1 by unfold mulE; rw [if_neg (by simp [hx])]]
    clear hx
    go_enter Try.func33, Try.ntmps33
    go_wp2_with (first
      | (go_at_call 44; refine (iIn _ _ _ _ _ x HN.out hm (HI.out.below rfl T0.out)).mono ?_; unfold InPost; rw [HX.out]; rintro e w1 ⟨p, q, r, u, v, s, rfl, hv1, hb1⟩; clear hv1; have T1 := Lib.hid (T0.out.trans (hb1.mono T0.out.size)); have T1a := Lib.hid (T1.out.alloc T1.out.size (.cells #[.int .i64 p, .int .i64 q, .int .i64 r] 45)); have T1b := Lib.hid (T1a.out.alloc T1a.out.size (.cells #[.int .i64 u, .int .i64 v, .int .i64 s] 45)); have N1 := Lib.hid (keepH (Joins.below_alloc1 _ (.cells #[.int .i64 u, .int .i64 v, .int .i64 s] 45)) (by simp) (heap_alloc_new w1 (.cells #[.int .i64 p, .int .i64 q, .int .i64 r] 45))); have M1 : Hid (((w1.alloc (.cells #[.int .i64 p, .int .i64 q, .int .i64 r] 45)).alloc (.cells #[.int .i64 u, .int .i64 v, .int .i64 s] 45)).heap[w1.heap.size + 1]? = some (.cells #[.int .i64 u, .int .i64 v, .int .i64 s] 45 (0, 0))) := Lib.hid (by simpa using heap_alloc_new (w1.alloc (.cells #[.int .i64 p, .int .i64 q, .int .i64 r] 45)) (.cells #[.int .i64 u, .int .i64 v, .int .i64 s] 45)); have c1 := keepC T1.out (by simp <;> omega) C1; have c1b := keepC T1b.out (by simp <;> omega) C1))
    go_ret
    exact ⟨rfl, HB.out.trans (T1b.out.mono (by simp <;> omega))⟩
  | true =>
    have HX := Lib.hid hx
    by_cases hk : -100 ≤ k ∧ k ≤ 100
    · obtain ⟨k1, k2⟩ := hk
      have BX := isE_true hx
      have HT := Lib.hid (tri_grp BX.1)
      have HF : Hid (mulE l x k = mulN l x k) := Lib.hid (by unfold mulE; rw [if_pos hx, if_pos ⟨k1, k2⟩])
      have HF2 := Lib.hid (mul_tri (grpB_true BX.1).1 x k (by have := HT.out.p1; omega))
      clear hx BX
      go_enter Try.func33, Try.ntmps33
      go_upto_region 4 with (first
        | (go_at_call 44; refine (iIn _ _ _ _ _ x HN.out hm (HI.out.below rfl T0.out)).mono ?_; unfold InPost; rw [HX.out]; rintro e w1 ⟨p, q, r, u, v, s, rfl, hv1, hb1⟩; obtain ⟨e1, e2, e3, e4, e5, e6⟩ := hv1 rfl; have HV1 := Lib.hid (And.intro e1 (And.intro e2 (And.intro e3 (And.intro e4 (And.intro e5 e6))))); clear e1 e2 e3 e4 e5 e6; clear hv1; have T1 := Lib.hid (T0.out.trans (hb1.mono T0.out.size)); have T1a := Lib.hid (T1.out.alloc T1.out.size (.cells #[.int .i64 p, .int .i64 q, .int .i64 r] 45)); have T1b := Lib.hid (T1a.out.alloc T1a.out.size (.cells #[.int .i64 u, .int .i64 v, .int .i64 s] 45)); have N1 := Lib.hid (keepH (Joins.below_alloc1 _ (.cells #[.int .i64 u, .int .i64 v, .int .i64 s] 45)) (by simp) (heap_alloc_new w1 (.cells #[.int .i64 p, .int .i64 q, .int .i64 r] 45))); have M1 : Hid (((w1.alloc (.cells #[.int .i64 p, .int .i64 q, .int .i64 r] 45)).alloc (.cells #[.int .i64 u, .int .i64 v, .int .i64 s] 45)).heap[w1.heap.size + 1]? = some (.cells #[.int .i64 u, .int .i64 v, .int .i64 s] 45 (0, 0))) := Lib.hid (by simpa using heap_alloc_new (w1.alloc (.cells #[.int .i64 p, .int .i64 q, .int .i64 r] 45)) (.cells #[.int .i64 u, .int .i64 v, .int .i64 s] 45)); have c1 := keepC T1.out (by simp <;> omega) C1; have c1b := keepC T1b.out (by simp <;> omega) C1))
      rw [← HV1.out.1, ← HV1.out.2.1, ← HV1.out.2.2.1] at HT
      have BU := Lib.hid (show (0 ≤ u ∧ u < p) ∧ (0 ≤ v ∧ v < q) ∧ (0 ≤ s ∧ s < r) by
        obtain ⟨e1, e2, e3, e4, e5, e6⟩ := HV1.out
        rw [e4, e5, e6, ← e1, ← e2, ← e3]
        exact ⟨emod_b HT.out.p1, emod_b HT.out.q1, emod_b HT.out.r1⟩)
      have HR : Hid (mulE l x k = u * k % p + p * (v * k % q) + p * q * (s * k % r)) := Lib.hid (by
        obtain ⟨e1, e2, e3, e4, e5, e6⟩ := HV1.out
        rw [HF.out, HF2.out, e4, e5, e6, e1, e2, e3])
      have p1 := HT.out.p1
      have p2 := HT.out.p2
      have q1 := HT.out.q1
      have q2 := HT.out.q2
      have r1 := HT.out.r1
      have r2 := HT.out.r2
      obtain ⟨a1, a2⟩ := prod_bnd BU.out.1.1 BU.out.1.2 p2 k1 k2
      obtain ⟨b1, b2⟩ := prod_bnd BU.out.2.1.1 BU.out.2.1.2 q2 k1 k2
      obtain ⟨d1, d2⟩ := prod_bnd BU.out.2.2.1 BU.out.2.2.2 r2 k1 k2
      obtain ⟨a3, a4⟩ := tmod_bnd (u * k) p1
      obtain ⟨b3, b4⟩ := tmod_bnd (v * k) q1
      obtain ⟨d3, d4⟩ := tmod_bnd (s * k) r1
      have X0 := ix0 p q r
      have X1 := ix1 p q r
      have X2 := ix2 p q r
      obtain ⟨ta0, ta1, ta2, _, _, _⟩ := trip_cell N1.out
      obtain ⟨tb0, tb1, tb2, tf0, tf1, tf2⟩ := trip_cell M1.out
      go_wp2
      refine wp_loop_rounds 4 ?_
      rw [rounds_succ]; go_wp2
      rw [rounds_succ]; go_wp2
      rw [rounds_succ]; go_wp2
      rw [rounds_succ]
      go_wp2_with (go_at_call 45; refine (iElement _ _ _ _ _ _ _ HT.out (emod_b HT.out.p1) (emod_b HT.out.q1) (emod_b HT.out.r1)).mono ?_; rintro e w4 ⟨rfl, hb4⟩)
      go_ret
      refine ⟨by rw [HR.out, ← tmod_fix (u * k), ← tmod_fix (v * k), ← tmod_fix (s * k)]; rfl, HB.out.trans (Below.trans (Below.mono (T1a.out.alloc T1a.out.size _) (by simp <;> omega)) (hb4.mono (Nat.le_trans (Nat.le_trans (by simp <;> omega) T1a.out.size) (by simp))))⟩
    · rw [show mulE l x k = -1 by unfold mulE; rw [if_pos hx, if_neg hk]]
      have hor : k < -100 ∨ (-100 ≤ k ∧ 100 < k) := by omega
      clear hx hk
      rcases hor with h | ⟨h, h2⟩
      all_goals
        go_enter Try.func33, Try.ntmps33
        go_wp2_with (first
          | (go_at_call 44; refine (iIn _ _ _ _ _ x HN.out hm (HI.out.below rfl T0.out)).mono ?_; unfold InPost; rw [HX.out]; rintro e w1 ⟨p, q, r, u, v, s, rfl, hv1, hb1⟩; clear hv1; have T1 := Lib.hid (T0.out.trans (hb1.mono T0.out.size)); have T1a := Lib.hid (T1.out.alloc T1.out.size (.cells #[.int .i64 p, .int .i64 q, .int .i64 r] 45)); have T1b := Lib.hid (T1a.out.alloc T1a.out.size (.cells #[.int .i64 u, .int .i64 v, .int .i64 s] 45)); have N1 := Lib.hid (keepH (Joins.below_alloc1 _ (.cells #[.int .i64 u, .int .i64 v, .int .i64 s] 45)) (by simp) (heap_alloc_new w1 (.cells #[.int .i64 p, .int .i64 q, .int .i64 r] 45))); have M1 : Hid (((w1.alloc (.cells #[.int .i64 p, .int .i64 q, .int .i64 r] 45)).alloc (.cells #[.int .i64 u, .int .i64 v, .int .i64 s] 45)).heap[w1.heap.size + 1]? = some (.cells #[.int .i64 u, .int .i64 v, .int .i64 s] 45 (0, 0))) := Lib.hid (by simpa using heap_alloc_new (w1.alloc (.cells #[.int .i64 p, .int .i64 q, .int .i64 r] 45)) (.cells #[.int .i64 u, .int .i64 v, .int .i64 s] 45)); have c1 := keepC T1.out (by simp <;> omega) C1; have c1b := keepC T1b.out (by simp <;> omega) C1))
        go_ret
        exact ⟨rfl, HB.out.trans (T1b.out.mono (by simp <;> omega))⟩
theorem iNegE (w : World) (a : Option Addr) (l : List Int) (n cap : Nat) (x : Int) (hn : n = l.length) (hm : n ≤ 9223372036854775807) (hi : Ints w a l) :
    Calls Try.prog 31 #[.agg #[.slice a n cap], .int .i64 x] w fun e w' => e = .returned (.int .i64 (negE l x)) ∧ Below w.heap.size w w' := by
  rw [show negE l x = mulE l x (-1) by unfold negE mulE negN; split <;> rfl]
  have HI := Lib.hid (ints_alloc hi (.cells #[.slice a n cap] 27))
  have HN := Lib.hid hn
  have C1 := newC w (.slice a n cap) 27 (n := w.heap.size) rfl
  have HB := Lib.hid (Joins.below_alloc1 w (.cells #[.slice a n cap] 27))
  have T0 := Lib.hid (Below.refl (w.alloc (.cells #[.slice a n cap] 27)).heap.size (w.alloc (.cells #[.slice a n cap] 27)))
  clear hi hn
  go_enter Try.func31, Try.ntmps31
  go_wp2_with (first
    | (go_at_call 33; refine (iMulE _ _ _ _ _ _ _ HN.out hm HI.out).mono ?_; rintro e w1 ⟨rfl, hb1⟩))
  go_ret
  exact ⟨rfl, HB.out.trans (hb1.mono (by simp <;> omega))⟩
end Go.Proofs.Ytnacckpagbcllaa
