/- The contracts of the document's reading of groups (spec): the order, elements, sums and negatives of elements. -/
import Derived.Test.YtfkleihnafeoeaaGreatDoorGrpSpec
namespace Go.Proofs.YtfkleihnafeoeaaGreatDoor
open Go.RowKit
set_option maxRecDepth 1000000
theorem sOrder (w : World) (a : Option Addr) (l : List Int) (n cap : Nat) (hn : n = l.length) (hg : grpB l = true) (hi : Ints w a l) :
    Calls Tryz.prog 35 #[.agg #[.slice a n cap]] w fun e w' => e = .returned (.int .i64 (prodI l)) ∧ Below w.heap.size w w' := by
  have HI := Lib.hid hi
  have HN := Lib.hid hn
  have HG := Lib.hid hg
  have hn3 : n ≤ 3 := by rw [hn]; exact (grpB_true hg).1
  clear hi hn hg
  have C1 := newC w (.slice a n cap) 26 (n := w.heap.size) rfl
  go_enter Tryz.func35, Tryz.ntmps35
  go_wp2
  go_loop [3, 4] (fun p i => ∃ k : Nat, k ≤ n ∧ i = .int .i64 k ∧ p = .int .i64 (PK l k)) (fun _ i => n - (intOf i).toNat)
  case atStart => exact ⟨0, by omega, rfl, by rw [PK_zero]⟩
  case round =>
    obtain ⟨k, hk, rfl, rfl⟩ := hrel
    have HB := Lib.hid (Joins.below_alloc1 w (.cells #[.slice a n cap] 26))
    by_cases hlt : k < n
    · have hkl2 : k < l.length := by rw [← HN.out]; exact hlt
      rcases HI.out with h0 | ⟨b, off, h1, hbl, hc⟩
      · rw [h0] at hkl2; simp at hkl2
      · subst h1
        have r1 : (w.alloc (.cells #[.slice (some ⟨b, off, none⟩) n cap] 26)).cell? ⟨b, off + k, none⟩ = some (.int .i64 (l.getD k 0)) := keepC (Joins.below_alloc1 w _) (by simpa using hbl) (hc k hkl2)
        have HS := Lib.hid (PK_succ l k hkl2)
        obtain ⟨p1, p2⟩ := PK_grp HG.out (k + 1) (by omega)
        rw [HS.out] at p1 p2
        clear hc hkl2
        generalize l.getD k 0 = c at *
        generalize PK l k = N at *
        go_wp2
        go_round
        case rel => exact ⟨k + 1, by omega, by go_num, by rw [HS.out]⟩
        case measure => simp [intOf]; omega
    · obtain rfl : k = n := by omega
      have HF := Lib.hid (PK_full l)
      rw [← HN.out] at HF
      go_wp2
      go_ret
      exact ⟨by rw [← HF.out]; rfl, HB.out⟩
/-- The places of the sum of two numbers. -/
def sdig (l : List Int) (x y : Int) (k : Nat) : Int := (x / PK l k + y / PK l k) % l.getD k 0
theorem sdig_bnd {l : List Int} (h : grpB l = true) (x y : Int) {k : Nat} (hk : k < l.length) : 0 ≤ sdig l x y k ∧ sdig l x y k < l.getD k 0 := by
  have := ord_at h hk
  exact ⟨Int.emod_nonneg _ (by omega), Int.emod_lt_of_pos _ (by omega)⟩
theorem mul_lt24 {D c N : Int} (h0 : 0 ≤ D) (h1 : D < c) (hc : c ≤ 24) (hN : 1 ≤ N) (hN2 : N ≤ 24) : 0 ≤ D * N ∧ D * N ≤ 552 :=
  ⟨Int.mul_nonneg h0 (by omega), Int.le_trans (Int.mul_le_mul (show D ≤ 23 by omega) hN2 (by omega) (by omega)) (by decide)⟩
/-- The sum of two elements, place by place. -/
def addN (l : List Int) (x y : Int) : Int := valK l (sdig l x y) l.length
set_option maxHeartbeats 1000000 in
theorem sAdd (w : World) (a : Option Addr) (l : List Int) (n cap : Nat) (x y : Int) (hx0 : 0 ≤ x) (hx : x ≤ 23) (hy0 : 0 ≤ y) (hy : y ≤ 23) (hn : n = l.length) (hg : grpB l = true) (hi : Ints w a l) :
    Calls Tryz.prog 56 #[.agg #[.slice a n cap], .int .i64 x, .int .i64 y] w fun e w' => e = .returned (.int .i64 (addN l x y)) ∧ Below w.heap.size w w' := by
  have HI := Lib.hid hi
  have HN := Lib.hid hn
  have HG := Lib.hid hg
  have hn3 : n ≤ 3 := by rw [hn]; exact (grpB_true hg).1
  clear hi hn hg
  have C1 := newC w (.slice a n cap) 26 (n := w.heap.size) rfl
  have HB := Lib.hid (Joins.below_alloc1 w (.cells #[.slice a n cap] 26))
  have HX := Lib.hid (And.intro hx0 hx)
  have HY := Lib.hid (And.intro hy0 hy)
  clear hx0 hx hy0 hy
  go_enter Tryz.func56, Tryz.ntmps56
  go_wp2
  go_loopw [1, 2, 7, 8, 9] (fun u v z p i wr => ∃ k : Nat, k ≤ n ∧ i = .int .i64 k ∧ p = .int .i64 (PK l k) ∧ u = .int .i64 (x / PK l k) ∧ v = .int .i64 (y / PK l k) ∧ z = .int .i64 (valK l (sdig l x y) k) ∧ Below (w.heap.size + 1) (w.alloc (.cells #[.slice a n cap] 26)) wr) (fun _ _ _ _ i _ => n - (intOf i).toNat)
  case atStart => exact ⟨0, by omega, rfl, by rw [PK_zero], by rw [PK_zero, Int.ediv_one], by rw [PK_zero, Int.ediv_one], rfl, Below.refl _ _⟩
  case round =>
    obtain ⟨k, hk, rfl, rfl, rfl, rfl, rfl, hbel⟩ := hrel
    have c1 := keepC hbel (by simp) C1
    by_cases hlt : k < n
    · have hkl2 : k < l.length := by rw [← HN.out]; exact hlt
      rcases HI.out with h0 | ⟨b, off, h1, hbl, hc⟩
      · rw [h0] at hkl2; simp at hkl2
      · subst h1
        have r1 : wr.cell? ⟨b, off + k, none⟩ = some (.int .i64 (l.getD k 0)) := keepC hbel (by simp; omega) (keepC (Joins.below_alloc1 w _) (by simpa using hbl) (hc k hkl2))
        have HS := Lib.hid (PK_succ l k hkl2)
        obtain ⟨p1, p2⟩ := PK_grp HG.out k (by omega)
        obtain ⟨q1, q2⟩ := PK_grp HG.out (k + 1) (by omega)
        rw [HS.out] at q1 q2
        obtain ⟨o1, o2⟩ := ord_at HG.out hkl2
        obtain ⟨x1, x2⟩ := quo_bnd HX.out.1 p1
        obtain ⟨y1, y2⟩ := quo_bnd HY.out.1 p1
        have x3 := Int.le_trans x2 HX.out.2
        have y3 := Int.le_trans y2 HY.out.2
        obtain ⟨d1, d2⟩ := sdig_bnd HG.out x y hkl2
        obtain ⟨m1, m2⟩ := mul_lt24 d1 d2 o2 p1 p2
        obtain ⟨v1, v2⟩ := valK_bnd HG.out (sdig l x y) k (by omega) (fun j hj => sdig_bnd HG.out x y (by omega))
        have QX := Lib.hid (quo_step l x k hkl2 (by omega))
        have QY := Lib.hid (quo_step l y k hkl2 (by omega))
        have HV : Hid (valK l (sdig l x y) (k + 1) = valK l (sdig l x y) k + sdig l x y k * PK l k) := Lib.hid rfl
        have HD : sdig l x y k = (x / PK l k + y / PK l k) % l.getD k 0 := rfl
        clear hc hkl2 x2 y2
        rw [HD] at d1 d2 m1 m2 HV
        clear HD
        generalize valK l (sdig l x y) k = z at *
        generalize x / PK l k = u at *
        generalize y / PK l k = v at *
        generalize l.getD k 0 = c at *
        generalize PK l k = N at *
        have a1 : 0 ≤ u % c := Int.emod_nonneg _ (by omega)
        have a2 : u % c < c := Int.emod_lt_of_pos _ (by omega)
        have a3 : 0 ≤ v % c := Int.emod_nonneg _ (by omega)
        have a4 : v % c < c := Int.emod_lt_of_pos _ (by omega)
        go_wp2
        go_quiet (fail)
        go_wp2
        go_roundw
        case rel => exact ⟨k + 1, by omega, by go_num, by rw [HS.out], by rw [QX.out], by rw [QY.out], by rw [HV.out], hbel.trans (Joins.below_draws _ _ _)⟩
        case measure => simp [intOf]; omega
    · obtain rfl : k = n := by omega
      have HF : Hid (addN l x y = valK l (sdig l x y) k) := Lib.hid (by rw [HN.out]; rfl)
      go_wp2
      go_ret
      exact ⟨by rw [HF.out]; rfl, HB.out.trans (hbel.mono (by omega))⟩
theorem sOrderOf (w : World) (a : Option Addr) (l : List Int) (n cap : Nat) (hn : n = l.length) (hm : n ≤ 9223372036854775807) (hi : Ints w a l) :
    Calls Tryz.prog 59 #[.agg #[.slice a n cap]] w fun e w' => e = .returned (.int .i64 (ordN l)) ∧ Below w.heap.size w w' := by
  have HI := Lib.hid (ints_alloc hi (.cells #[.slice a n cap] 26))
  have HN := Lib.hid hn
  have C1 := newC w (.slice a n cap) 26 (n := w.heap.size) rfl
  have HB := Lib.hid (Joins.below_alloc1 w (.cells #[.slice a n cap] 26))
  clear hi hn
  cases hg : grpB l with
  | true =>
    have HG := Lib.hid hg
    clear hg
    go_enter Tryz.func59, Tryz.ntmps59
    go_wp2_with (first
      | (go_at_call 66; refine (sIsGroup _ _ _ _ _ HN.out hm HI.out).mono ?_; rw [HG.out]; rintro e w1 ⟨rfl, hb1⟩; have c1 := keepC hb1 (by simp) C1; have HI1 := Lib.hid (HI.out.below rfl hb1))
      | (go_at_call 35; refine (sOrder _ _ _ _ _ HN.out HG.out HI1.out).mono ?_; rintro e w2 ⟨rfl, hb2⟩))
    go_ret
    exact ⟨by rw [ordN_grp HG.out]; rfl, HB.out.trans ((hb1.mono (by simp)).trans (hb2.mono (Nat.le_trans (by simp) hb1.size)))⟩
  | false =>
    have HG := Lib.hid hg
    clear hg
    go_enter Tryz.func59, Tryz.ntmps59
    go_wp2_with (first
      | (go_at_call 66; refine (sIsGroup _ _ _ _ _ HN.out hm HI.out).mono ?_; rw [HG.out]; rintro e w1 ⟨rfl, hb1⟩; have c1 := keepC hb1 (by simp) C1))
    go_ret
    exact ⟨by rw [ordN_no HG.out]; rfl, HB.out.trans (hb1.mono (by simp))⟩
theorem sIs (w : World) (a : Option Addr) (l : List Int) (n cap : Nat) (x : Int) (r : Bool) (hr : r = (decide (0 ≤ x) && decide (x < ordN l))) (hn : n = l.length) (hm : n ≤ 9223372036854775807) (hi : Ints w a l) :
    Calls Tryz.prog 44 #[.agg #[.slice a n cap], .int .i64 x] w fun e w' => e = .returned (.bool r) ∧ Below w.heap.size w w' := by
  have HI := Lib.hid (ints_alloc hi (.cells #[.slice a n cap] 26))
  have HN := Lib.hid hn
  have C1 := newC w (.slice a n cap) 26 (n := w.heap.size) rfl
  have HB := Lib.hid (Joins.below_alloc1 w (.cells #[.slice a n cap] 26))
  clear hi hn
  subst hr
  obtain ⟨N, HO⟩ : ∃ N, Hid (ordN l = N) := ⟨_, Lib.hid rfl⟩
  rw [HO.out]
  by_cases h1 : 0 ≤ x
  · obtain ⟨r, hr⟩ : ∃ r, decide (x < N) = r := ⟨_, rfl⟩
    cases r
    all_goals
      simp only [h1, hr, decide_true, Bool.and_true, Bool.and_false]
      go_enter Tryz.func44, Tryz.ntmps44
      go_wp2_with (go_at_call 59; refine (sOrderOf _ _ _ _ _ HN.out hm HI.out).mono ?_; rw [HO.out]; rintro e w1 ⟨rfl, hb1⟩)
      go_ret
      exact ⟨rfl, HB.out.trans (hb1.mono (by simp))⟩
  · simp only [h1, decide_false, Bool.false_and]
    have g1 : decide ((0 : Int) ≤ x) = false := decide_eq_false h1
    go_enter Tryz.func44, Tryz.ntmps44
    go_wp2
    go_ret
    exact ⟨rfl, HB.out⟩
end Go.Proofs.YtfkleihnafeoeaaGreatDoor
