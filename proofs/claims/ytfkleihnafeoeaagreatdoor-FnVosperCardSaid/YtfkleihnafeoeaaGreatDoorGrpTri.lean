/- The contracts of the program's own functions on three places: product, places, element, sum. -/
import Derived.Test.YtfkleihnafeoeaaGreatDoorGrpImpl
namespace Go.Proofs.YtfkleihnafeoeaaGreatDoor
open Go.RowKit
set_option maxRecDepth 1000000
theorem triArr : Tryz.prog.underlying 44 = some (.array 3 3) := by kernel_rfl
theorem ix0 (x y z : Int) (W : World) : (Instr.index 44 (tV x y z) (.int .i64 0)).run Tryz.prog W = .ok (.int .i64 x) W := by
  simp [Instr.index, run_underlying triArr, asIntOf, go_sem]
theorem ix1 (x y z : Int) (W : World) : (Instr.index 44 (tV x y z) (.int .i64 1)).run Tryz.prog W = .ok (.int .i64 y) W := by
  simp [Instr.index, run_underlying triArr, asIntOf, go_sem]
theorem ix2 (x y z : Int) (W : World) : (Instr.index 44 (tV x y z) (.int .i64 2)).run Tryz.prog W = .ok (.int .i64 z) W := by
  simp [Instr.index, run_underlying triArr, asIntOf, go_sem]
/-- Three orders, ones among them: from 1 to 24, with a product of at most 24. -/
structure Tri (p q r : Int) : Prop where
  p1 : 1 ≤ p
  p2 : p ≤ 24
  q1 : 1 ≤ q
  q2 : q ≤ 24
  r1 : 1 ≤ r
  r2 : r ≤ 24
  pq1 : 1 ≤ p * q
  pq2 : p * q ≤ 24
  pqr1 : 1 ≤ p * q * r
  pqr2 : p * q * r ≤ 24
theorem iProduct (w : World) (p q r : Int) (h : Tri p q r) :
    Calls Tryz.prog 33 #[tV p q r] w fun e w' => e = .returned (.int .i64 (p * q * r)) ∧ Below w.heap.size w w' := by
  obtain ⟨h1, h2, h3, h4, h5, h6, h7, h8, h9, h10⟩ := h
  have X0 := ix0 p q r
  have X1 := ix1 p q r
  have X2 := ix2 p q r
  go_enter Tryz.func33, Tryz.ntmps33
  go_wp2
  refine wp_loop_rounds 4 ?_
  rw [rounds_succ]; go_wp2
  rw [rounds_succ]; go_wp2
  rw [rounds_succ]; go_wp2
  rw [rounds_succ]; go_wp2
  go_ret
  exact ⟨rfl, Joins.below_alloc1 _ _⟩
theorem iPlaces (w : World) (p q r x : Int) (h : Tri p q r) (hx0 : 0 ≤ x) (hx : x ≤ 23) :
    Calls Tryz.prog 70 #[tV p q r, .int .i64 x] w fun e w' => e = .returned (tV (x % p) (x / p % q) (x / p / q % r)) ∧ Below w.heap.size w w' := by
  obtain ⟨h1, h2, h3, h4, h5, h6, h7, h8, h9, h10⟩ := h
  have X0 := ix0 p q r
  have X1 := ix1 p q r
  have X2 := ix2 p q r
  obtain ⟨x1, x2⟩ := quo_bnd hx0 h1
  obtain ⟨y1, y2⟩ := quo_bnd x1 h3
  go_enter Tryz.func70, Tryz.ntmps70
  go_wp2
  refine wp_loop_rounds 4 ?_
  rw [rounds_succ]; go_wp2
  rw [rounds_succ]; go_wp2
  rw [rounds_succ]; go_wp2
  rw [rounds_succ]; go_wp2
  refine bodyPost_ret (v := tV (x % p) (x / p % q) (x / p / q % r)) (by simp [results, Tryz.results70, go_sem]) rfl ⟨rfl, Joins.below_alloc3 _ _ _ _⟩
theorem iElement (w : World) (p q r a b c : Int) (h : Tri p q r) (ha : 0 ≤ a ∧ a < p) (hb : 0 ≤ b ∧ b < q) (hc : 0 ≤ c ∧ c < r) :
    Calls Tryz.prog 53 #[tV p q r, tV a b c] w fun e w' => e = .returned (.int .i64 (a + p * b + p * q * c)) ∧ Below w.heap.size w w' := by
  obtain ⟨h1, h2, h3, h4, h5, h6, h7, h8, h9, h10⟩ := h
  have X0 := ix0 p q r
  have X1 := ix1 p q r
  have X2 := ix2 p q r
  obtain ⟨ha1, ha2⟩ := ha
  obtain ⟨hb1, hb2⟩ := hb
  obtain ⟨hc1, hc2⟩ := hc
  have m1 : 0 ≤ p * b := Int.mul_nonneg (by omega) hb1
  have m2 : p * b ≤ 24 * 24 := Int.mul_le_mul (by omega) (by omega) hb1 (by omega)
  have m3 : 0 ≤ p * q * c := Int.mul_nonneg (by omega) hc1
  have m4 : p * q * c ≤ 24 * 24 := Int.mul_le_mul (by omega) (by omega) hc1 (by omega)
  go_enter Tryz.func53, Tryz.ntmps53
  go_wp2
  refine wp_loop_rounds 4 ?_
  rw [rounds_succ]; go_wp2
  rw [rounds_succ]; go_wp2
  rw [rounds_succ]; go_wp2
  rw [rounds_succ]; go_wp2
  go_ret
  exact ⟨rfl, Joins.below_alloc2 _ _ _⟩
theorem iAdd (w : World) (p q r a b c x y z : Int) (h : Tri p q r) (ha : 0 ≤ a ∧ a < p) (hb : 0 ≤ b ∧ b < q) (hc : 0 ≤ c ∧ c < r) (hx : 0 ≤ x ∧ x < p) (hy : 0 ≤ y ∧ y < q) (hz : 0 ≤ z ∧ z < r) :
    Calls Tryz.prog 54 #[tV p q r, tV a b c, tV x y z] w fun e w' => e = .returned (tV ((a + x) % p) ((b + y) % q) ((c + z) % r)) ∧ Below w.heap.size w w' := by
  obtain ⟨h1, h2, h3, h4, h5, h6, h7, h8, h9, h10⟩ := h
  have X0 := ix0 p q r
  have X1 := ix1 p q r
  have X2 := ix2 p q r
  obtain ⟨ha1, ha2⟩ := ha
  obtain ⟨hb1, hb2⟩ := hb
  obtain ⟨hc1, hc2⟩ := hc
  obtain ⟨hx1, hx2⟩ := hx
  obtain ⟨hy1, hy2⟩ := hy
  obtain ⟨hz1, hz2⟩ := hz
  go_enter Tryz.func54, Tryz.ntmps54
  go_wp2
  refine wp_loop_rounds 4 ?_
  rw [rounds_succ]; go_wp2
  go_region
  go_wp2
  rw [rounds_succ]; go_wp2
  go_region
  go_wp2
  rw [rounds_succ]; go_wp2
  go_region
  go_wp2
  rw [rounds_succ]; go_wp2
  refine bodyPost_ret (v := tV ((a + x) % p) ((b + y) % q) ((c + z) % r)) (by simp [results, Tryz.results54, go_sem]) rfl ⟨rfl, ?_⟩
  exact Below.drew (Below.drew (Below.drew (Below.alloc (Joins.below_alloc3 w _ _ _) (by simp <;> omega) _)))
theorem prod_pad {l : List Int} (h : l.length ≤ 3) : prodI l = l.getD 0 1 * l.getD 1 1 * l.getD 2 1 := by
  match l, h with
  | [], _ => rfl
  | [a], _ => simp [prodI]
  | [a, b], _ => simp [prodI]
  | [a, b, c], _ => simp [prodI, Int.mul_assoc]
  | _ :: _ :: _ :: _ :: _, h => simp at h
/-- The orders of a group, with ones behind them. -/
def pad (l : List Int) : List Int := [l.getD 0 1, l.getD 1 1, l.getD 2 1]
theorem tri_grp {l : List Int} (h : grpB l = true) : Tri (l.getD 0 1) (l.getD 1 1) (l.getD 2 1) := by
  obtain ⟨h1, h2, h3⟩ := grpB_true h
  have hp := prod_pad h1
  have hb : ∀ j, 1 ≤ l.getD j 1 ∧ l.getD j 1 ≤ 24 := fun j => by
    by_cases hj : j < l.length
    · have := h2 j hj
      simp only [List.getD, List.getElem?_eq_getElem hj, Option.getD_some] at *
      omega
    · simp only [List.getD, List.getElem?_eq_none (by omega : l.length ≤ j), Option.getD_none]; omega
  obtain ⟨a1, a2⟩ := hb 0
  obtain ⟨b1, b2⟩ := hb 1
  obtain ⟨c1, c2⟩ := hb 2
  rw [hp] at h3
  generalize l.getD 0 1 = p at *
  generalize l.getD 1 1 = q at *
  generalize l.getD 2 1 = r at *
  have m1 := (mul_bnd a1 a2 b1 b2).1
  have m2 := Int.mul_le_mul (Int.le_refl (p * q)) c1 (by omega) (by omega)
  exact ⟨a1, a2, b1, b2, c1, c2, m1, by omega, by omega, h3⟩
end Go.Proofs.YtfkleihnafeoeaaGreatDoor
