/- The contracts of the program's own functions on groups: multiples and negatives of elements. -/
import Derived.Test.YthlpjiibjlaebaaDoorGrpFun
namespace Go.Proofs.YthlpjiibjlaebaaDoor
open Go.RowKit
set_option maxRecDepth 1000000
theorem prod_bnd {t c k : Int} (h0 : 0 ≤ t) (h1 : t < c) (hc : c ≤ 24) (k1 : -100 ≤ k) (k2 : k ≤ 100) : -2300 ≤ t * k ∧ t * k ≤ 2300 := by
  have a1 : t * k ≤ t * 100 := Int.mul_le_mul_of_nonneg_left k2 h0
  have a2 : t * -100 ≤ t * k := Int.mul_le_mul_of_nonneg_left k1 h0
  omega
theorem tmod_bnd (a : Int) {c : Int} (h : 1 ≤ c) : -c < a.tmod c ∧ a.tmod c < c := by
  have := Int.tmod_lt_of_pos a (show 0 < c by omega)
  have h2 := Int.tmod_lt_of_pos (-a) (show 0 < c by omega)
  rw [Int.neg_tmod] at h2
  omega
theorem tmod_fix (a c : Int) : a.tmod c % c = a % c := by
  have h1 := Int.mul_tdiv_add_tmod a c
  calc a.tmod c % c = (c * a.tdiv c + a.tmod c) % c := by rw [Int.mul_add_emod_self_left]
    _ = a % c := by rw [h1]
theorem iIsMul (w : World) (k : Int) (r : Bool) (h : r = (decide (-100 ≤ k) && decide (k ≤ 100))) :
    Calls Tryd.prog 106 #[.int .i64 k] w fun e w' => e = .returned (.bool r) ∧ w = w' := by
  subst h
  by_cases h1 : -100 ≤ k <;> by_cases h2 : k ≤ 100 <;> simp only [h1, h2, decide_true, decide_false, Bool.and_true, Bool.and_false]
  all_goals
    go_enter Tryd.func106, Tryd.ntmps106
    go_wp2
    go_ret
    exact ⟨rfl, rfl⟩
theorem iMulti (w : World) (p q r u v s k : Int) (h : Tri p q r) (ha : 0 ≤ u ∧ u < p) (hb : 0 ≤ v ∧ v < q) (hc : 0 ≤ s ∧ s < r) (k1 : -100 ≤ k) (k2 : k ≤ 100) :
    Calls Tryd.prog 109 #[tV p q r, tV u v s, .int .i64 k] w fun e w' => e = .returned (tV (u * k % p) (v * k % q) (s * k % r)) ∧ Below w.heap.size w w' := by
  obtain ⟨p1, p2, q1, q2, r1, r2, h7, h8, h9, h10⟩ := h
  obtain ⟨a1, a2⟩ := prod_bnd ha.1 ha.2 p2 k1 k2
  obtain ⟨b1, b2⟩ := prod_bnd hb.1 hb.2 q2 k1 k2
  obtain ⟨d1, d2⟩ := prod_bnd hc.1 hc.2 r2 k1 k2
  obtain ⟨a3, a4⟩ := tmod_bnd (u * k) p1
  obtain ⟨b3, b4⟩ := tmod_bnd (v * k) q1
  obtain ⟨d3, d4⟩ := tmod_bnd (s * k) r1
  have X0 := ix0 p q r
  have X1 := ix1 p q r
  have X2 := ix2 p q r
  rw [← tmod_fix (u * k), ← tmod_fix (v * k), ← tmod_fix (s * k)]
  go_enter Tryd.func109, Tryd.ntmps109
  go_wp2
  refine wp_loop_rounds 4 ?_
  rw [rounds_succ]; go_wp2
  rw [rounds_succ]; go_wp2
  rw [rounds_succ]; go_wp2
  rw [rounds_succ]; go_wp2
  refine bodyPost_ret (v := tV ((u * k).tmod p % p) ((v * k).tmod q % q) ((s * k).tmod r % r)) (by simp [results, Tryd.results109, go_sem]) rfl ⟨rfl, ?_⟩
  first
    | exact Joins.below_alloc3 w _ _ _
    | exact Joins.below_alloc2 w _ _
    | exact Joins.below_alloc1 w _
end Go.Proofs.YthlpjiibjlaebaaDoor
