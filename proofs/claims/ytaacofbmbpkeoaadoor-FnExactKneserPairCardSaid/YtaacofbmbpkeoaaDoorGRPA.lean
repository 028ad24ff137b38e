/- Merged: GrpMath GrpSpec GrpSpec2 GrpMath2. -/
import Derived.Test.YtaacofbmbpkeoaaDoorGrpBase
namespace Go.Proofs.YtaacofbmbpkeoaaDoor
/-- The product of a list. -/
def prodI : List Int → Int
  | [] => 1
  | x :: t => x * prodI t
/-- The product of the first k. -/
def PK (l : List Int) (k : Nat) : Int := prodI (l.take k)
theorem PK_zero (l : List Int) : PK l 0 = 1 := by simp [PK, prodI]
theorem PK_succ (l : List Int) (k : Nat) (h : k < l.length) : PK l (k + 1) = PK l k * l.getD k 0 := by
  unfold PK
  induction l generalizing k with
  | nil => simp at h
  | cons x t ih =>
    cases k with
    | zero => simp [prodI]
    | succ k =>
      simp only [List.take_succ_cons, prodI, List.getD_cons_succ]
      rw [ih k (by simpa using h), Int.mul_assoc]
theorem PK_full (l : List Int) : PK l l.length = prodI l := by simp [PK]
/-- Whether the orders are those of a group. -/
def grpB (l : List Int) : Bool := decide (l.length ≤ 3) && (l.all (fun x => decide (2 ≤ x) && decide (x ≤ 24)) && decide (prodI l ≤ 24))
theorem mul_bnd {a b A B : Int} (ha : 1 ≤ a) (hA : a ≤ A) (hb : 1 ≤ b) (hB : b ≤ B) : 1 ≤ a * b ∧ a * b ≤ A * B := by
  refine ⟨?_, Int.mul_le_mul hA hB (by omega) (by omega)⟩
  have := Int.mul_le_mul ha hb (by omega) (by omega)
  simpa using this
theorem PK_bnd (l : List Int) (k : Nat) (hk : k ≤ l.length) (h : ∀ j, j < k → 2 ≤ l.getD j 0 ∧ l.getD j 0 ≤ 24) : 1 ≤ PK l k ∧ PK l k ≤ 24 ^ k := by
  induction k with
  | zero => rw [PK_zero]; simp
  | succ k ih =>
    obtain ⟨h1, h2⟩ := ih (by omega) (fun j hj => h j (by omega))
    obtain ⟨h3, h4⟩ := h k (by omega)
    rw [PK_succ l k (by omega), Int.pow_succ]
    exact mul_bnd h1 h2 (by omega) h4
theorem PK_small (l : List Int) (k : Nat) (hk : k ≤ l.length) (hk3 : k ≤ 3) (h : ∀ j, j < k → 2 ≤ l.getD j 0 ∧ l.getD j 0 ≤ 24) : 1 ≤ PK l k ∧ PK l k ≤ 13824 := by
  obtain ⟨h1, h2⟩ := PK_bnd l k hk h
  refine ⟨h1, Int.le_trans h2 ?_⟩
  have : k = 0 ∨ k = 1 ∨ k = 2 ∨ k = 3 := by omega
  rcases this with rfl | rfl | rfl | rfl <;> decide
theorem grpB_true {l : List Int} (h : grpB l = true) : l.length ≤ 3 ∧ (∀ j, j < l.length → 2 ≤ l.getD j 0 ∧ l.getD j 0 ≤ 24) ∧ prodI l ≤ 24 := by
  simp only [grpB, Bool.and_eq_true, decide_eq_true_eq, List.all_eq_true] at h
  obtain ⟨h1, h2, h3⟩ := h
  refine ⟨h1, fun j hj => ?_, h3⟩
  have := h2 (l.getD j 0) (by simp only [List.getD, List.getElem?_eq_getElem hj, Option.getD_some]; exact List.getElem_mem _)
  exact this
theorem grpB_of {l : List Int} (h1 : l.length ≤ 3) (h2 : ∀ j, j < l.length → 2 ≤ l.getD j 0 ∧ l.getD j 0 ≤ 24) : grpB l = decide (prodI l ≤ 24) := by
  have : l.all (fun x => decide (2 ≤ x) && decide (x ≤ 24)) = true := by
    rw [List.all_eq_true]
    intro x hx
    obtain ⟨j, hj, rfl⟩ := List.getElem_of_mem hx
    have := h2 j hj
    simp only [List.getD, List.getElem?_eq_getElem hj, Option.getD_some] at this
    simp [this.1, this.2]
  simp [grpB, h1, this]
theorem grpB_long {l : List Int} (h : 3 < l.length) : grpB l = false := by
  have : decide (l.length ≤ 3) = false := by simp; omega
  simp [grpB, this]
theorem grpB_out {l : List Int} (j : Nat) (hj : j < l.length) (h : ¬ (2 ≤ l.getD j 0 ∧ l.getD j 0 ≤ 24)) : grpB l = false := by
  cases hb : grpB l with
  | false => rfl
  | true => exact absurd ((grpB_true hb).2.1 j hj) h
/-- In a group the products of the first orders are at most 24. -/
theorem PK_grp {l : List Int} (h : grpB l = true) (k : Nat) (hk : k ≤ l.length) : 1 ≤ PK l k ∧ PK l k ≤ 24 := by
  obtain ⟨h1, h2, h3⟩ := grpB_true h
  have hpos : ∀ k, k ≤ l.length → 1 ≤ PK l k := fun k hk => (PK_bnd l k hk (fun j hj => h2 j (by omega))).1
  refine ⟨hpos k hk, ?_⟩
  have mono : ∀ d, k + d ≤ l.length → PK l k ≤ PK l (k + d) := by
    intro d
    induction d with
    | zero => intro _; exact Int.le_refl _
    | succ d ih =>
      intro hd
      refine Int.le_trans (ih (by omega)) ?_
      rw [show k + (d + 1) = k + d + 1 by omega, PK_succ l (k + d) (by omega)]
      have a1 := hpos (k + d) (by omega)
      have a2 := h2 (k + d) (by omega)
      have := Int.mul_le_mul (Int.le_refl (PK l (k + d))) (show 1 ≤ l.getD (k + d) 0 by omega) (by omega) (by omega)
      simpa using this
  have := mono (l.length - k) (by omega)
  rw [show k + (l.length - k) = l.length by omega, PK_full] at this
  omega
/-- The number of elements; 0 for no group. -/
def ordN (l : List Int) : Int := if grpB l = true then prodI l else 0
theorem ordN_grp {l : List Int} (h : grpB l = true) : ordN l = prodI l := by unfold ordN; rw [if_pos h]
theorem ordN_no {l : List Int} (h : grpB l = false) : ordN l = 0 := by unfold ordN; rw [if_neg (by simp [h])]
/-- The place of x modulo order k. -/
def dig (l : List Int) (x : Int) (k : Nat) : Int := x / PK l k % l.getD k 0
/-- The number with the places f. -/
def valK (l : List Int) (f : Nat → Int) : Nat → Int
  | 0 => 0
  | k + 1 => valK l f k + f k * PK l k
theorem ord_at {l : List Int} (h : grpB l = true) {k : Nat} (hk : k < l.length) : 2 ≤ l.getD k 0 ∧ l.getD k 0 ≤ 24 := (grpB_true h).2.1 k hk
theorem dig_bnd {l : List Int} (h : grpB l = true) (x : Int) {k : Nat} (hk : k < l.length) : 0 ≤ dig l x k ∧ dig l x k < l.getD k 0 := by
  have := ord_at h hk
  exact ⟨Int.emod_nonneg _ (by omega), Int.emod_lt_of_pos _ (by omega)⟩
theorem valK_bnd {l : List Int} (h : grpB l = true) (f : Nat → Int) (k : Nat) (hk : k ≤ l.length) (hf : ∀ j, j < k → 0 ≤ f j ∧ f j < l.getD j 0) : 0 ≤ valK l f k ∧ valK l f k < PK l k := by
  induction k with
  | zero => rw [PK_zero]; simp [valK]
  | succ k ih =>
    obtain ⟨h1, h2⟩ := ih (by omega) (fun j hj => hf j (by omega))
    obtain ⟨h3, h4⟩ := hf k (by omega)
    obtain ⟨p1, p2⟩ := PK_grp h k (by omega)
    rw [PK_succ l k (by omega)]
    simp only [valK]
    have a1 : 0 ≤ f k * PK l k := Int.mul_nonneg h3 (by omega)
    have a2 : (f k + 1) * PK l k ≤ l.getD k 0 * PK l k := Int.mul_le_mul_of_nonneg_right (by omega) (by omega)
    rw [Int.add_mul, Int.one_mul] at a2
    rw [Int.mul_comm (PK l k)]
    omega
theorem quo_step (l : List Int) (x : Int) (k : Nat) (hk : k < l.length) (h0 : 0 ≤ PK l k) : x / PK l k / l.getD k 0 = x / PK l (k + 1) := by
  rw [PK_succ l k hk, Int.ediv_ediv_of_nonneg h0]
theorem quo_bnd {x P : Int} (hx : 0 ≤ x) (hP : 1 ≤ P) : 0 ≤ x / P ∧ x / P ≤ x := ⟨Int.ediv_nonneg hx (by omega), Int.ediv_le_self _ hx⟩
end Go.Proofs.YtaacofbmbpkeoaaDoor

namespace Go.Proofs.YtaacofbmbpkeoaaDoor
open Go.RowKit
set_option maxRecDepth 1000000
theorem sIn (w : World) (x lo hi : Int) (r : Bool) (h : r = (decide (lo ≤ x) && decide (x ≤ hi))) :
    Calls Tryd.prog 48 #[.int .i64 x, .int .i64 lo, .int .i64 hi] w fun e w' => e = .returned (.bool r) ∧ w = w' := by
  subst h
  by_cases h1 : lo ≤ x <;> by_cases h2 : x ≤ hi <;> simp only [h1, h2, decide_true, decide_false, Bool.and_true, Bool.and_false]
  all_goals
    go_enter Tryd.func48, Tryd.ntmps48
    go_wp2
    go_ret
    exact ⟨rfl, rfl⟩
theorem sIsGroup (w : World) (a : Option Addr) (l : List Int) (n cap : Nat) (hn : n = l.length) (hm : n ≤ 9223372036854775807) (hi : Ints w a l) :
    Calls Tryd.prog 47 #[.agg #[.slice a n cap]] w fun e w' => e = .returned (.bool (grpB l)) ∧ Below w.heap.size w w' := by
  have HI := Lib.hid hi
  have HN := Lib.hid hn
  clear hi hn
  have C1 := newC w (.slice a n cap) 27 (n := w.heap.size) rfl
  go_enter Tryd.func47, Tryd.ntmps47
  go_wp2
  go_loop [3, 4] (fun p i => ∃ k : Nat, k ≤ n ∧ k ≤ 3 ∧ i = .int .i64 k ∧ p = .int .i64 (PK l k) ∧ Hid (∀ j, j < k → 2 ≤ l.getD j 0 ∧ l.getD j 0 ≤ 24)) (fun _ i => n - (intOf i).toNat)
  case atStart => exact ⟨0, by omega, by omega, rfl, by rw [PK_zero], Lib.hid (fun j h => by omega)⟩
  case round =>
    obtain ⟨k, hk, hk3, rfl, rfl, HR⟩ := hrel
    have hkl : k ≤ l.length := by rw [← HN.out]; exact hk
    have hsm := PK_small l k hkl hk3 HR.out
    have HB := Lib.hid (Joins.below_alloc1 w (.cells #[.slice a n cap] 27))
    by_cases hlt : k < n
    · have hkl2 : k < l.length := by rw [← HN.out]; exact hlt
      rcases HI.out with h0 | ⟨b, off, h1, hbl, hc⟩
      · rw [h0] at hkl2; simp at hkl2
      · subst h1
        have r1 : (w.alloc (.cells #[.slice (some ⟨b, off, none⟩) n cap] 27)).cell? ⟨b, off + k, none⟩ = some (.int .i64 (l.getD k 0)) := keepC (Joins.below_alloc1 w _) (by simpa using hbl) (hc k hkl2)
        clear hc hkl
        have HS := Lib.hid (PK_succ l k hkl2)
        by_cases hin : 2 ≤ l.getD k 0 ∧ l.getD k 0 ≤ 24
        · obtain ⟨hi1, hi2⟩ := hin
          have HX := Lib.hid (And.intro hi1 hi2)
          by_cases h2 : k ≤ 2
          · have hP := mul_bnd hsm.1 hsm.2 (show 1 ≤ l.getD k 0 by omega) hi2
            have HR2 : Hid (∀ j, j < k + 1 → 2 ≤ l.getD j 0 ∧ l.getD j 0 ≤ 24) := Lib.hid (fun j hj => by
              rcases Nat.lt_or_ge j k with h | h
              · exact HR.out j h
              · rw [show j = k by omega]; exact HX.out)
            obtain ⟨hP1, hP2⟩ := hP
            clear hkl2 hsm HX HR
            generalize l.getD k 0 = c at *
            generalize PK l k = N at *
            have g1 : true = (decide ((2 : Int) ≤ c) && decide (c ≤ 24)) := by simp [hi1, hi2]
            have G1 := Lib.hid g1
            clear g1
            go_wp2_with (go_at_call 48; refine (sIn _ _ _ _ _ G1.out).mono ?_; rintro e w' ⟨rfl, rfl⟩)
            go_round
            case rel => exact ⟨k + 1, by omega, by omega, by go_num, by rw [HS.out], HR2⟩
            case measure => simp [intOf]; omega
          · have HF := Lib.hid (grpB_long (l := l) (by omega))
            clear hkl2 hsm HX HR HS
            generalize l.getD k 0 = c at *
            generalize PK l k = N at *
            have G1 : Hid (true = (decide ((2 : Int) ≤ c) && decide (c ≤ 24))) := Lib.hid (by simp [hi1, hi2])
            go_wp2_with (go_at_call 48; refine (sIn _ _ _ _ _ G1.out).mono ?_; rintro e w' ⟨rfl, rfl⟩)
            go_ret
            exact ⟨by rw [HF.out]; rfl, HB.out⟩
        · have HF := Lib.hid (grpB_out k hkl2 hin)
          have G1 : Hid (false = (decide ((2 : Int) ≤ l.getD k 0) && decide (l.getD k 0 ≤ 24))) := Lib.hid (by
            have : (decide ((2 : Int) ≤ l.getD k 0) && decide (l.getD k 0 ≤ 24)) = decide (2 ≤ l.getD k 0 ∧ l.getD k 0 ≤ 24) := by rw [Bool.decide_and]
            rw [this, decide_eq_false hin])
          clear hkl2 hsm HR HS hin
          generalize l.getD k 0 = c at *
          generalize PK l k = N at *
          go_wp2_with (go_at_call 48; refine (sIn _ _ _ _ _ G1.out).mono ?_; rintro e w' ⟨rfl, rfl⟩)
          go_ret
          exact ⟨by rw [HF.out]; rfl, HB.out⟩
    · obtain rfl : k = n := by omega
      have HF := Lib.hid (grpB_of (l := l) (by rw [← HN.out]; omega) (by rw [← HN.out]; exact HR.out))
      rw [← PK_full, ← HN.out] at HF
      clear hkl hsm HR
      generalize PK l k = N at *
      go_wp2
      go_ret
      exact ⟨by rw [HF.out]; rfl, HB.out⟩
end Go.Proofs.YtaacofbmbpkeoaaDoor

namespace Go.Proofs.YtaacofbmbpkeoaaDoor
open Go.RowKit
set_option maxRecDepth 1000000
theorem sOrder (w : World) (a : Option Addr) (l : List Int) (n cap : Nat) (hn : n = l.length) (hg : grpB l = true) (hi : Ints w a l) :
    Calls Tryd.prog 34 #[.agg #[.slice a n cap]] w fun e w' => e = .returned (.int .i64 (prodI l)) ∧ Below w.heap.size w w' := by
  have HI := Lib.hid hi
  have HN := Lib.hid hn
  have HG := Lib.hid hg
  have hn3 : n ≤ 3 := by rw [hn]; exact (grpB_true hg).1
  clear hi hn hg
  have C1 := newC w (.slice a n cap) 27 (n := w.heap.size) rfl
  go_enter Tryd.func34, Tryd.ntmps34
  go_wp2
  go_loop [3, 4] (fun p i => ∃ k : Nat, k ≤ n ∧ i = .int .i64 k ∧ p = .int .i64 (PK l k)) (fun _ i => n - (intOf i).toNat)
  case atStart => exact ⟨0, by omega, rfl, by rw [PK_zero]⟩
  case round =>
    obtain ⟨k, hk, rfl, rfl⟩ := hrel
    have HB := Lib.hid (Joins.below_alloc1 w (.cells #[.slice a n cap] 27))
    by_cases hlt : k < n
    · have hkl2 : k < l.length := by rw [← HN.out]; exact hlt
      rcases HI.out with h0 | ⟨b, off, h1, hbl, hc⟩
      · rw [h0] at hkl2; simp at hkl2
      · subst h1
        have r1 : (w.alloc (.cells #[.slice (some ⟨b, off, none⟩) n cap] 27)).cell? ⟨b, off + k, none⟩ = some (.int .i64 (l.getD k 0)) := keepC (Joins.below_alloc1 w _) (by simpa using hbl) (hc k hkl2)
        have HS := Lib.hid (PK_succ l k hkl2)
        obtain ⟨p1, p2⟩ := PK_grp HG.out (k + 1) (by omega)
        rw [HS.out] at p1 p2
        clear hc hkl2
        generalize l.getD k 0 = c at *
        generalize PK l k = N at *
        go_wp2
        go_round
        case rel => exact ⟨k + 1, by omega, by go_num, by rw [HS.out]⟩
        case measure => simp [intOf]; omega
    · obtain rfl : k = n := by omega
      have HF := Lib.hid (PK_full l)
      rw [← HN.out] at HF
      go_wp2
      go_ret
      exact ⟨by rw [← HF.out]; rfl, HB.out⟩
/-- The places of the sum of two numbers. -/
def sdig (l : List Int) (x y : Int) (k : Nat) : Int := (x / PK l k + y / PK l k) % l.getD k 0
theorem sdig_bnd {l : List Int} (h : grpB l = true) (x y : Int) {k : Nat} (hk : k < l.length) : 0 ≤ sdig l x y k ∧ sdig l x y k < l.getD k 0 := by
  have := ord_at h hk
  exact ⟨Int.emod_nonneg _ (by omega), Int.emod_lt_of_pos _ (by omega)⟩
theorem mul_lt24 {D c N : Int} (h0 : 0 ≤ D) (h1 : D < c) (hc : c ≤ 24) (hN : 1 ≤ N) (hN2 : N ≤ 24) : 0 ≤ D * N ∧ D * N ≤ 552 :=
  ⟨Int.mul_nonneg h0 (by omega), Int.le_trans (Int.mul_le_mul (show D ≤ 23 by omega) hN2 (by omega) (by omega)) (by decide)⟩
/-- The sum of two elements, place by place. -/
def addN (l : List Int) (x y : Int) : Int := valK l (sdig l x y) l.length
set_option maxHeartbeats 1000000 in
theorem sAdd (w : World) (a : Option Addr) (l : List Int) (n cap : Nat) (x y : Int) (hx0 : 0 ≤ x) (hx : x ≤ 23) (hy0 : 0 ≤ y) (hy : y ≤ 23) (hn : n = l.length) (hg : grpB l = true) (hi : Ints w a l) :
    Calls Tryd.prog 56 #[.agg #[.slice a n cap], .int .i64 x, .int .i64 y] w fun e w' => e = .returned (.int .i64 (addN l x y)) ∧ Below w.heap.size w w' := by
  have HI := Lib.hid hi
  have HN := Lib.hid hn
  have HG := Lib.hid hg
  have hn3 : n ≤ 3 := by rw [hn]; exact (grpB_true hg).1
  clear hi hn hg
  have C1 := newC w (.slice a n cap) 27 (n := w.heap.size) rfl
  have HB := Lib.hid (Joins.below_alloc1 w (.cells #[.slice a n cap] 27))
  have HX := Lib.hid (And.intro hx0 hx)
  have HY := Lib.hid (And.intro hy0 hy)
  clear hx0 hx hy0 hy
  go_enter Tryd.func56, Tryd.ntmps56
  go_wp2
  go_loopw [1, 2, 7, 8, 9] (fun u v z p i wr => ∃ k : Nat, k ≤ n ∧ i = .int .i64 k ∧ p = .int .i64 (PK l k) ∧ u = .int .i64 (x / PK l k) ∧ v = .int .i64 (y / PK l k) ∧ z = .int .i64 (valK l (sdig l x y) k) ∧ Below (w.heap.size + 1) (w.alloc (.cells #[.slice a n cap] 27)) wr) (fun _ _ _ _ i _ => n - (intOf i).toNat)
  case atStart => exact ⟨0, by omega, rfl, by rw [PK_zero], by rw [PK_zero, Int.ediv_one], by rw [PK_zero, Int.ediv_one], rfl, Below.refl _ _⟩
  case round =>
    obtain ⟨k, hk, rfl, rfl, rfl, rfl, rfl, hbel⟩ := hrel
    have c1 := keepC hbel (by simp) C1
    by_cases hlt : k < n
    · have hkl2 : k < l.length := by rw [← HN.out]; exact hlt
      rcases HI.out with h0 | ⟨b, off, h1, hbl, hc⟩
      · rw [h0] at hkl2; simp at hkl2
      · subst h1
        have r1 : wr.cell? ⟨b, off + k, none⟩ = some (.int .i64 (l.getD k 0)) := keepC hbel (by simp; omega) (keepC (Joins.below_alloc1 w _) (by simpa using hbl) (hc k hkl2))
        have HS := Lib.hid (PK_succ l k hkl2)
        obtain ⟨p1, p2⟩ := PK_grp HG.out k (by omega)
        obtain ⟨q1, q2⟩ := PK_grp HG.out (k + 1) (by omega)
        rw [HS.out] at q1 q2
        obtain ⟨o1, o2⟩ := ord_at HG.out hkl2
        obtain ⟨x1, x2⟩ := quo_bnd HX.out.1 p1
        obtain ⟨y1, y2⟩ := quo_bnd HY.out.1 p1
        have x3 := Int.le_trans x2 HX.out.2
        have y3 := Int.le_trans y2 HY.out.2
        obtain ⟨d1, d2⟩ := sdig_bnd HG.out x y hkl2
        obtain ⟨m1, m2⟩ := mul_lt24 d1 d2 o2 p1 p2
        obtain ⟨v1, v2⟩ := valK_bnd HG.out (sdig l x y) k (by omega) (fun j hj => sdig_bnd HG.out x y (by omega))
        have QX := Lib.hid (quo_step l x k hkl2 (by omega))
        have QY := Lib.hid (quo_step l y k hkl2 (by omega))
        have HV : Hid (valK l (sdig l x y) (k + 1) = valK l (sdig l x y) k + sdig l x y k * PK l k) := Lib.hid rfl
        have HD : sdig l x y k = (x / PK l k + y / PK l k) % l.getD k 0 := rfl
        clear hc hkl2 x2 y2
        rw [HD] at d1 d2 m1 m2 HV
        clear HD
        generalize valK l (sdig l x y) k = z at *
        generalize x / PK l k = u at *
        generalize y / PK l k = v at *
        generalize l.getD k 0 = c at *
        generalize PK l k = N at *
        have a1 : 0 ≤ u % c := Int.emod_nonneg _ (by omega)
        have a2 : u % c < c := Int.emod_lt_of_pos _ (by omega)
        have a3 : 0 ≤ v % c := Int.emod_nonneg _ (by omega)
        have a4 : v % c < c := Int.emod_lt_of_pos _ (by omega)
        go_wp2
        go_quiet (fail)
        go_wp2
        go_roundw
        case rel => exact ⟨k + 1, by omega, by go_num, by rw [HS.out], by rw [QX.out], by rw [QY.out], by rw [HV.out], hbel.trans (Joins.below_draws _ _ _)⟩
        case measure => simp [intOf]; omega
    · obtain rfl : k = n := by omega
      have HF : Hid (addN l x y = valK l (sdig l x y) k) := Lib.hid (by rw [HN.out]; rfl)
      go_wp2
      go_ret
      exact ⟨by rw [HF.out]; rfl, HB.out.trans (hbel.mono (by omega))⟩
theorem sOrderOf (w : World) (a : Option Addr) (l : List Int) (n cap : Nat) (hn : n = l.length) (hm : n ≤ 9223372036854775807) (hi : Ints w a l) :
    Calls Tryd.prog 71 #[.agg #[.slice a n cap]] w fun e w' => e = .returned (.int .i64 (ordN l)) ∧ Below w.heap.size w w' := by
  have HI := Lib.hid (ints_alloc hi (.cells #[.slice a n cap] 27))
  have HN := Lib.hid hn
  have C1 := newC w (.slice a n cap) 27 (n := w.heap.size) rfl
  have HB := Lib.hid (Joins.below_alloc1 w (.cells #[.slice a n cap] 27))
  clear hi hn
  cases hg : grpB l with
  | true =>
    have HG := Lib.hid hg
    clear hg
    go_enter Tryd.func71, Tryd.ntmps71
    go_wp2_with (first
      | (go_at_call 47; refine (sIsGroup _ _ _ _ _ HN.out hm HI.out).mono ?_; rw [HG.out]; rintro e w1 ⟨rfl, hb1⟩; have c1 := keepC hb1 (by simp) C1; have HI1 := Lib.hid (HI.out.below rfl hb1))
      | (go_at_call 34; refine (sOrder _ _ _ _ _ HN.out HG.out HI1.out).mono ?_; rintro e w2 ⟨rfl, hb2⟩))
    go_ret
    exact ⟨by rw [ordN_grp HG.out]; rfl, HB.out.trans ((hb1.mono (by simp)).trans (hb2.mono (Nat.le_trans (by simp) hb1.size)))⟩
  | false =>
    have HG := Lib.hid hg
    clear hg
    go_enter Tryd.func71, Tryd.ntmps71
    go_wp2_with (first
      | (go_at_call 47; refine (sIsGroup _ _ _ _ _ HN.out hm HI.out).mono ?_; rw [HG.out]; rintro e w1 ⟨rfl, hb1⟩; have c1 := keepC hb1 (by simp) C1))
    go_ret
    exact ⟨by rw [ordN_no HG.out]; rfl, HB.out.trans (hb1.mono (by simp))⟩
theorem sIs (w : World) (a : Option Addr) (l : List Int) (n cap : Nat) (x : Int) (r : Bool) (hr : r = (decide (0 ≤ x) && decide (x < ordN l))) (hn : n = l.length) (hm : n ≤ 9223372036854775807) (hi : Ints w a l) :
    Calls Tryd.prog 55 #[.agg #[.slice a n cap], .int .i64 x] w fun e w' => e = .returned (.bool r) ∧ Below w.heap.size w w' := by
  have HI := Lib.hid (ints_alloc hi (.cells #[.slice a n cap] 27))
  have HN := Lib.hid hn
  have C1 := newC w (.slice a n cap) 27 (n := w.heap.size) rfl
  have HB := Lib.hid (Joins.below_alloc1 w (.cells #[.slice a n cap] 27))
  clear hi hn
  subst hr
  obtain ⟨N, HO⟩ : ∃ N, Hid (ordN l = N) := ⟨_, Lib.hid rfl⟩
  rw [HO.out]
  by_cases h1 : 0 ≤ x
  · obtain ⟨r, hr⟩ : ∃ r, decide (x < N) = r := ⟨_, rfl⟩
    cases r
    all_goals
      simp only [h1, hr, decide_true, Bool.and_true, Bool.and_false]
      go_enter Tryd.func55, Tryd.ntmps55
      go_wp2_with (go_at_call 71; refine (sOrderOf _ _ _ _ _ HN.out hm HI.out).mono ?_; rw [HO.out]; rintro e w1 ⟨rfl, hb1⟩)
      go_ret
      exact ⟨rfl, HB.out.trans (hb1.mono (by simp))⟩
  · simp only [h1, decide_false, Bool.false_and]
    have g1 : decide ((0 : Int) ≤ x) = false := decide_eq_false h1
    go_enter Tryd.func55, Tryd.ntmps55
    go_wp2
    go_ret
    exact ⟨rfl, HB.out⟩
end Go.Proofs.YtaacofbmbpkeoaaDoor

namespace Go.Proofs.YtaacofbmbpkeoaaDoor
/-- Orders from 1 on, at most three, with a product of at most 24. -/
structure Ords (l : List Int) : Prop where
  len : l.length ≤ 3
  pos : ∀ j, j < l.length → 1 ≤ l.getD j 0 ∧ l.getD j 0 ≤ 24
  PK : ∀ k, k ≤ l.length → 1 ≤ PK l k ∧ PK l k ≤ 24
theorem ords_grp {l : List Int} (h : grpB l = true) : Ords l :=
  ⟨(grpB_true h).1, fun j hj => ⟨by have := ord_at h hj; omega, (ord_at h hj).2⟩, fun k hk => PK_grp h k hk⟩
theorem Ords.prod {l : List Int} (h : Ords l) : 1 ≤ prodI l ∧ prodI l ≤ 24 := by rw [← PK_full]; exact h.PK _ (Nat.le_refl _)
theorem PK_dvd {l : List Int} (j : Nat) : ∀ m, j ≤ m → m ≤ l.length → ∃ S, PK l m = PK l j * S := by
  intro m
  induction m with
  | zero => intro h _; obtain rfl : j = 0 := by omega
            exact ⟨1, by simp⟩
  | succ m ih =>
    intro h hm
    by_cases e : j = m + 1
    · subst e; exact ⟨1, by simp⟩
    · obtain ⟨S, hS⟩ := ih (by omega) (by omega)
      exact ⟨S * l.getD m 0, by rw [PK_succ l m (by omega), hS, Int.mul_assoc]⟩
/-- The places of the value are the places. -/
theorem dig_val {l : List Int} (h : Ords l) (f : Nat → Int) (m j : Nat) (hj : j < m) (hm : m ≤ l.length) (hf : ∀ i, i < m → 0 ≤ f i ∧ f i < l.getD i 0) : dig l (valK l f m) j = f j := by
  have top : ∀ d, j + 1 + d ≤ m → ∃ T, valK l f (j + 1 + d) = valK l f (j + 1) + PK l (j + 1) * T := by
    intro d
    induction d with
    | zero => intro _; exact ⟨0, by simp⟩
    | succ d ih =>
      intro hd
      obtain ⟨T, hT⟩ := ih (by omega)
      obtain ⟨S, hS⟩ := PK_dvd (l := l) (j + 1) (j + 1 + d) (by omega) (by omega)
      refine ⟨T + f (j + 1 + d) * S, ?_⟩
      rw [show j + 1 + (d + 1) = j + 1 + d + 1 by omega]
      simp only [valK]
      simp only [valK] at hT
      rw [hT, hS, Int.mul_add, Int.add_assoc]
      congr 2
      rw [← Int.mul_assoc, ← Int.mul_assoc, Int.mul_comm (f _)]
  obtain ⟨T, hT⟩ := top (m - (j + 1)) (by omega)
  rw [show j + 1 + (m - (j + 1)) = m by omega] at hT
  have hb : 0 ≤ valK l f j ∧ valK l f j < PK l j := by
    have : ∀ k, k ≤ j → 0 ≤ valK l f k ∧ valK l f k < PK l k := by
      intro k
      induction k with
      | zero => intro _; rw [PK_zero]; simp [valK]
      | succ k ih =>
        intro hk
        obtain ⟨h1, h2⟩ := ih (by omega)
        obtain ⟨h3, h4⟩ := hf k (by omega)
        obtain ⟨p1, p2⟩ := h.PK k (by omega)
        rw [PK_succ l k (by omega)]
        simp only [valK]
        have a1 : 0 ≤ f k * PK l k := Int.mul_nonneg h3 (by omega)
        have a2 : (f k + 1) * PK l k ≤ l.getD k 0 * PK l k := Int.mul_le_mul_of_nonneg_right (by omega) (by omega)
        rw [Int.add_mul, Int.one_mul] at a2
        rw [Int.mul_comm (PK l k)]
        omega
    exact this j (Nat.le_refl _)
  obtain ⟨p1, p2⟩ := h.PK j (by omega)
  obtain ⟨f1, f2⟩ := hf j hj
  unfold dig
  rw [hT, PK_succ l j (by omega)]
  simp only [valK]
  rw [show valK l f j + f j * PK l j + PK l j * l.getD j 0 * T = valK l f j + (f j + l.getD j 0 * T) * PK l j by
    rw [Int.add_mul, Int.add_assoc, Int.mul_assoc, Int.mul_comm (PK l j)]]
  rw [Int.add_mul_ediv_right _ _ (by omega), Int.ediv_eq_zero_of_lt hb.1 hb.2, Int.zero_add, Int.add_mul_emod_self_left, Int.emod_eq_of_lt f1 f2]
theorem val_mod {l : List Int} (h : Ords l) (x : Int) : ∀ k, k ≤ l.length → valK l (dig l x) k = x % PK l k := by
  intro k
  induction k with
  | zero => intro _; rw [PK_zero]; simp [valK, Int.emod_one]
  | succ k ih =>
    intro hk
    obtain ⟨p1, p2⟩ := h.PK k (by omega)
    obtain ⟨q1, q2⟩ := h.pos k (by omega)
    simp only [valK]
    rw [ih (by omega), PK_succ l k (by omega)]
    unfold dig
    generalize l.getD k 0 = c at *
    generalize _root_.Go.Proofs.YtaacofbmbpkeoaaDoor.PK l k = P at *
    have e1 := Int.mul_ediv_add_emod x P
    have e2 := Int.mul_ediv_add_emod (x / P) c
    have b1 := Int.emod_nonneg x (show P ≠ 0 by omega)
    have b2 := Int.emod_lt_of_pos x (show 0 < P by omega)
    have b3 := Int.emod_nonneg (x / P) (show c ≠ 0 by omega)
    have b4 := Int.emod_lt_of_pos (x / P) (show 0 < c by omega)
    have hx : x = (x % P + x / P % c * P) + P * c * (x / P / c) := by
      have e3 : P * (x / P) = P * (c * (x / P / c) + x / P % c) := by rw [e2]
      rw [Int.mul_add, ← Int.mul_assoc, Int.mul_comm P (x / P % c)] at e3
      omega
    have m1 : 0 ≤ x / P % c * P := Int.mul_nonneg b3 (by omega)
    have m2 : (x / P % c + 1) * P ≤ c * P := Int.mul_le_mul_of_nonneg_right (by omega) (by omega)
    rw [Int.add_mul, Int.one_mul] at m2
    have m3 : P * c = c * P := Int.mul_comm _ _
    calc x % P + x / P % c * P = (x % P + x / P % c * P) % (P * c) := (Int.emod_eq_of_lt (by omega) (by omega)).symm
      _ = ((x % P + x / P % c * P) + P * c * (x / P / c)) % (P * c) := by rw [Int.add_mul_emod_self_left]
      _ = x % (P * c) := by rw [← hx]
/-- The value of the places of x is x. -/
theorem val_dig {l : List Int} (h : Ords l) {x : Int} (h0 : 0 ≤ x) (h1 : x < prodI l) : valK l (dig l x) l.length = x := by
  rw [val_mod h x _ (Nat.le_refl _), PK_full, Int.emod_eq_of_lt h0 h1]
theorem val_congr (l : List Int) (f g : Nat → Int) (k : Nat) (h : ∀ j, j < k → f j = g j) : valK l f k = valK l g k := by
  induction k with
  | zero => rfl
  | succ k ih => simp only [valK]; rw [ih (fun j hj => h j (by omega)), h k (by omega)]
/-- Places of a sum. -/
theorem sdig_eq (l : List Int) (x y : Int) (k : Nat) : sdig l x y k = (dig l x k + dig l y k) % l.getD k 0 := by
  unfold sdig dig; rw [← Int.add_emod]
/-- k times x, place by place. -/
def mulF (l : List Int) (x k : Int) (j : Nat) : Int := dig l x j * k % l.getD j 0
def mulN (l : List Int) (x k : Int) : Int := valK l (mulF l x k) l.length
theorem mulF_bnd {l : List Int} (h : Ords l) (x k : Int) {j : Nat} (hj : j < l.length) : 0 ≤ mulF l x k j ∧ mulF l x k j < l.getD j 0 := by
  have := h.pos j hj
  exact ⟨Int.emod_nonneg _ (by omega), Int.emod_lt_of_pos _ (by omega)⟩
theorem Ords.val_bnd {l : List Int} (h : Ords l) (f : Nat → Int) (hf : ∀ j, j < l.length → 0 ≤ f j ∧ f j < l.getD j 0) : ∀ k, k ≤ l.length → 0 ≤ valK l f k ∧ valK l f k < _root_.Go.Proofs.YtaacofbmbpkeoaaDoor.PK l k := by
  intro k
  induction k with
  | zero => intro _; rw [PK_zero]; simp [valK]
  | succ k ih =>
    intro hk
    obtain ⟨h1, h2⟩ := ih (by omega)
    obtain ⟨h3, h4⟩ := hf k (by omega)
    obtain ⟨p1, p2⟩ := h.PK k (by omega)
    rw [PK_succ l k (by omega)]
    simp only [valK]
    have a1 : 0 ≤ f k * _root_.Go.Proofs.YtaacofbmbpkeoaaDoor.PK l k := Int.mul_nonneg h3 (by omega)
    have a2 : (f k + 1) * _root_.Go.Proofs.YtaacofbmbpkeoaaDoor.PK l k ≤ l.getD k 0 * _root_.Go.Proofs.YtaacofbmbpkeoaaDoor.PK l k := Int.mul_le_mul_of_nonneg_right (by omega) (by omega)
    rw [Int.add_mul, Int.one_mul] at a2
    rw [Int.mul_comm (_root_.Go.Proofs.YtaacofbmbpkeoaaDoor.PK l k)]
    omega
theorem mulN_bnd {l : List Int} (h : Ords l) (x k : Int) : 0 ≤ mulN l x k ∧ mulN l x k < prodI l := by
  rw [← PK_full]; exact h.val_bnd _ (fun j hj => mulF_bnd h x k hj) _ (Nat.le_refl _)
theorem mulN_dig {l : List Int} (h : Ords l) (x k : Int) {j : Nat} (hj : j < l.length) : dig l (mulN l x k) j = mulF l x k j :=
  dig_val h _ _ _ hj (Nat.le_refl _) (fun _ hi => mulF_bnd h x k hi)
theorem mulN_zero {l : List Int} (x : Int) : mulN l x 0 = 0 := by
  unfold mulN
  have : ∀ k, valK l (mulF l x 0) k = 0 := by
    intro k; induction k with
    | zero => rfl
    | succ k ih => simp [valK, ih, mulF]
  exact this _
theorem mulN_one {l : List Int} (h : Ords l) {x : Int} (h0 : 0 ≤ x) (h1 : x < prodI l) : mulN l x 1 = x := by
  unfold mulN
  rw [val_congr l _ (dig l x) _ (fun j hj => by
    have := h.pos j hj
    unfold mulF dig; rw [Int.mul_one, Int.emod_emod])]
  exact val_dig h h0 h1
/-- Once more x. -/
theorem mulN_succ {l : List Int} (h : Ords l) (x k : Int) : addN l (mulN l x k) x = mulN l x (k + 1) := by
  unfold addN
  rw [show mulN l x (k + 1) = valK l (mulF l x (k + 1)) l.length from rfl]
  apply val_congr
  intro j hj
  rw [sdig_eq, mulN_dig h x k hj]
  unfold mulF
  rw [Int.mul_add, Int.mul_one, Int.emod_add_emod]
theorem mulN_eq_zero {l : List Int} (h : Ords l) (x k : Int) : mulN l x k = 0 ↔ ∀ j, j < l.length → mulF l x k j = 0 := by
  constructor
  · intro e j hj
    rw [← mulN_dig h x k hj, e]
    unfold dig; simp
  · intro e
    unfold mulN
    rw [val_congr l _ (fun _ => 0) _ e]
    have : ∀ k, valK l (fun _ => 0) k = 0 := by
      intro k; induction k with
      | zero => rfl
      | succ k ih => simp [valK, ih]
    exact this _
/-- The negative. -/
def negN (l : List Int) (x : Int) : Int := mulN l x (-1)
theorem mul_neg {l : List Int} (h : Ords l) (x k : Int) : mulN l (negN l x) k = mulN l x (-k) := by
  apply val_congr
  intro j hj
  unfold mulF negN
  rw [mulN_dig h x (-1) hj]
  unfold mulF
  rw [Int.mul_emod, Int.emod_emod, ← Int.mul_emod]
  congr 1
  rw [Int.mul_assoc]; congr 1; omega
theorem neg_place (d c : Int) : (c - d) % c = d * -1 % c := by
  rw [show d * -1 = -d by omega, show c - d = -d + c by omega, Int.add_emod_right]
/-- How often x adds up to 0. -/
theorem ordE_ex {l : List Int} (h : Ords l) (x : Int) : ∃ m : Nat, 1 ≤ m ∧ m ≤ 24 ∧ mulN l x m = 0 := by
  obtain ⟨p1, p2⟩ := h.prod
  refine ⟨(prodI l).toNat, by omega, by omega, (mulN_eq_zero h x _).2 (fun j hj => ?_)⟩
  unfold mulF
  rw [show (((prodI l).toNat : Nat) : Int) = prodI l by omega]
  obtain ⟨S, hS⟩ := PK_dvd (l := l) (j + 1) l.length (by omega) (Nat.le_refl _)
  rw [← PK_full, hS, PK_succ l j hj]
  rw [show dig l x j * (_root_.Go.Proofs.YtaacofbmbpkeoaaDoor.PK l j * l.getD j 0 * S) = l.getD j 0 * (dig l x j * _root_.Go.Proofs.YtaacofbmbpkeoaaDoor.PK l j * S) by
    rw [Int.mul_comm (_root_.Go.Proofs.YtaacofbmbpkeoaaDoor.PK l j), Int.mul_assoc, ← Int.mul_assoc, Int.mul_comm (dig l x j), Int.mul_assoc, ← Int.mul_assoc (dig l x j)]]
  exact Int.mul_emod_right _ _
theorem least_of (p : Nat → Prop) : ∀ m, p m → ∃ k, k ≤ m ∧ p k ∧ ∀ i, i < k → ¬ p i := by
  intro m
  induction m using Nat.strongRecOn with
  | ind m ih =>
    intro hm
    by_cases h : ∃ i, i < m ∧ p i
    · obtain ⟨i, hi, hp⟩ := h
      obtain ⟨k, hk, hpk, hl⟩ := ih i hi hp
      exact ⟨k, by omega, hpk, hl⟩
    · exact ⟨m, Nat.le_refl _, hm, fun i hi hp => h ⟨i, hi, hp⟩⟩
/-- m is the order of x: the least positive number of times that x adds up to 0. -/
def IsOrd (l : List Int) (x : Int) (m : Nat) : Prop := 1 ≤ m ∧ m ≤ 24 ∧ mulN l x m = 0 ∧ ∀ i : Nat, 1 ≤ i → i < m → mulN l x i ≠ 0
theorem isOrd_ex {l : List Int} (h : Ords l) (x : Int) : ∃ m, IsOrd l x m := by
  obtain ⟨m, h1, h2, h3⟩ := ordE_ex h x
  obtain ⟨k, k1, k2, k3⟩ := least_of (fun m => 1 ≤ m ∧ mulN l x (m : Int) = 0) m ⟨h1, h3⟩
  exact ⟨k, k2.1, by omega, k2.2, fun i hi hlt e => k3 i hlt ⟨hi, e⟩⟩
/-- The least common multiple of the first k orders. -/
def lcmK (l : List Int) : Nat → Int
  | 0 => 1
  | k + 1 => ((lcmK l k).lcm (l.getD k 0) : Nat)
theorem lcmK_bnd {l : List Int} (h : Ords l) : ∀ k, k ≤ l.length → 1 ≤ lcmK l k ∧ lcmK l k ≤ _root_.Go.Proofs.YtaacofbmbpkeoaaDoor.PK l k := by
  intro k
  induction k with
  | zero => intro _; rw [PK_zero]; simp [lcmK]
  | succ k ih =>
    intro hk
    obtain ⟨h1, h2⟩ := ih (by omega)
    obtain ⟨c1, c2⟩ := h.pos k (by omega)
    rw [PK_succ l k (by omega)]
    simp only [lcmK]
    generalize l.getD k 0 = c at *
    generalize lcmK l k = e at *
    generalize _root_.Go.Proofs.YtaacofbmbpkeoaaDoor.PK l k = P at *
    obtain ⟨en, rfl⟩ : ∃ n : Nat, e = n := ⟨e.toNat, by omega⟩
    obtain ⟨cn, rfl⟩ : ∃ n : Nat, c = n := ⟨c.toNat, by omega⟩
    have hl : (en : Int).lcm (cn : Int) = Nat.lcm en cn := rfl
    rw [hl]
    have hpos : 0 < Nat.lcm en cn := Nat.lcm_pos (by omega) (by omega)
    have hle : Nat.lcm en cn ≤ en * cn := Nat.le_of_dvd (Nat.mul_pos (by omega) (by omega)) (Nat.lcm_dvd (Nat.dvd_mul_right _ _) (Nat.dvd_mul_left _ _))
    refine ⟨by omega, ?_⟩
    have h3 : ((en * cn : Nat) : Int) ≤ P * cn := by
      rw [Int.natCast_mul]
      exact Int.mul_le_mul_of_nonneg_right h2 (by omega)
    omega
end Go.Proofs.YtaacofbmbpkeoaaDoor
