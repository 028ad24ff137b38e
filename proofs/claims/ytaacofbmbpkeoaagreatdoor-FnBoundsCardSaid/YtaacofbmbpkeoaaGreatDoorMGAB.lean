/- Merged: GrpMath GrpSpec GrpSpec2. -/
import Derived.Test.YtaacofbmbpkeoaaGreatDoorMGAA
namespace Go.Proofs.YtaacofbmbpkeoaaGreatDoor
/-- The product of a list. -/
def prodI : List Int → Int
  | [] => 1
  | x :: t => x * prodI t
/-- The product of the first k. -/
def PK (l : List Int) (k : Nat) : Int := prodI (l.take k)
theorem PK_zero (l : List Int) : PK l 0 = 1 := by simp [PK, prodI]
theorem PK_succ (l : List Int) (k : Nat) (h : k < l.length) : PK l (k + 1) = PK l k * l.getD k 0 := by
  unfold PK
  induction l generalizing k with
  | nil => simp at h
  | cons x t ih =>
    cases k with
    | zero => simp [prodI]
    | succ k =>
      simp only [List.take_succ_cons, prodI, List.getD_cons_succ]
      rw [ih k (by simpa using h), Int.mul_assoc]
theorem PK_full (l : List Int) : PK l l.length = prodI l := by simp [PK]
/-- Whether the orders are those of a group. -/
def grpB (l : List Int) : Bool := decide (l.length ≤ 3) && (l.all (fun x => decide (2 ≤ x) && decide (x ≤ 24)) && decide (prodI l ≤ 24))
theorem mul_bnd {a b A B : Int} (ha : 1 ≤ a) (hA : a ≤ A) (hb : 1 ≤ b) (hB : b ≤ B) : 1 ≤ a * b ∧ a * b ≤ A * B := by
  refine ⟨?_, Int.mul_le_mul hA hB (by omega) (by omega)⟩
  have := Int.mul_le_mul ha hb (by omega) (by omega)
  simpa using this
theorem PK_bnd (l : List Int) (k : Nat) (hk : k ≤ l.length) (h : ∀ j, j < k → 2 ≤ l.getD j 0 ∧ l.getD j 0 ≤ 24) : 1 ≤ PK l k ∧ PK l k ≤ 24 ^ k := by
  induction k with
  | zero => rw [PK_zero]; simp
  | succ k ih =>
    obtain ⟨h1, h2⟩ := ih (by omega) (fun j hj => h j (by omega))
    obtain ⟨h3, h4⟩ := h k (by omega)
    rw [PK_succ l k (by omega), Int.pow_succ]
    exact mul_bnd h1 h2 (by omega) h4
theorem PK_small (l : List Int) (k : Nat) (hk : k ≤ l.length) (hk3 : k ≤ 3) (h : ∀ j, j < k → 2 ≤ l.getD j 0 ∧ l.getD j 0 ≤ 24) : 1 ≤ PK l k ∧ PK l k ≤ 13824 := by
  obtain ⟨h1, h2⟩ := PK_bnd l k hk h
  refine ⟨h1, Int.le_trans h2 ?_⟩
  have : k = 0 ∨ k = 1 ∨ k = 2 ∨ k = 3 := by omega
  rcases this with rfl | rfl | rfl | rfl <;> decide
theorem grpB_true {l : List Int} (h : grpB l = true) : l.length ≤ 3 ∧ (∀ j, j < l.length → 2 ≤ l.getD j 0 ∧ l.getD j 0 ≤ 24) ∧ prodI l ≤ 24 := by
  simp only [grpB, Bool.and_eq_true, decide_eq_true_eq, List.all_eq_true] at h
  obtain ⟨h1, h2, h3⟩ := h
  refine ⟨h1, fun j hj => ?_, h3⟩
  have := h2 (l.getD j 0) (by simp only [List.getD, List.getElem?_eq_getElem hj, Option.getD_some]; exact List.getElem_mem _)
  exact this
theorem grpB_of {l : List Int} (h1 : l.length ≤ 3) (h2 : ∀ j, j < l.length → 2 ≤ l.getD j 0 ∧ l.getD j 0 ≤ 24) : grpB l = decide (prodI l ≤ 24) := by
  have : l.all (fun x => decide (2 ≤ x) && decide (x ≤ 24)) = true := by
    rw [List.all_eq_true]
    intro x hx
    obtain ⟨j, hj, rfl⟩ := List.getElem_of_mem hx
    have := h2 j hj
    simp only [List.getD, List.getElem?_eq_getElem hj, Option.getD_some] at this
    simp [this.1, this.2]
  simp [grpB, h1, this]
theorem grpB_long {l : List Int} (h : 3 < l.length) : grpB l = false := by
  have : decide (l.length ≤ 3) = false := by simp; omega
  simp [grpB, this]
theorem grpB_out {l : List Int} (j : Nat) (hj : j < l.length) (h : ¬ (2 ≤ l.getD j 0 ∧ l.getD j 0 ≤ 24)) : grpB l = false := by
  cases hb : grpB l with
  | false => rfl
  | true => exact absurd ((grpB_true hb).2.1 j hj) h
/-- In a group the products of the first orders are at most 24. -/
theorem PK_grp {l : List Int} (h : grpB l = true) (k : Nat) (hk : k ≤ l.length) : 1 ≤ PK l k ∧ PK l k ≤ 24 := by
  obtain ⟨h1, h2, h3⟩ := grpB_true h
  have hpos : ∀ k, k ≤ l.length → 1 ≤ PK l k := fun k hk => (PK_bnd l k hk (fun j hj => h2 j (by omega))).1
  refine ⟨hpos k hk, ?_⟩
  have mono : ∀ d, k + d ≤ l.length → PK l k ≤ PK l (k + d) := by
    intro d
    induction d with
    | zero => intro _; exact Int.le_refl _
    | succ d ih =>
      intro hd
      refine Int.le_trans (ih (by omega)) ?_
      rw [show k + (d + 1) = k + d + 1 by omega, PK_succ l (k + d) (by omega)]
      have a1 := hpos (k + d) (by omega)
      have a2 := h2 (k + d) (by omega)
      have := Int.mul_le_mul (Int.le_refl (PK l (k + d))) (show 1 ≤ l.getD (k + d) 0 by omega) (by omega) (by omega)
      simpa using this
  have := mono (l.length - k) (by omega)
  rw [show k + (l.length - k) = l.length by omega, PK_full] at this
  omega
/-- The number of elements; 0 for no group. -/
def ordN (l : List Int) : Int := if grpB l = true then prodI l else 0
theorem ordN_grp {l : List Int} (h : grpB l = true) : ordN l = prodI l := by unfold ordN; rw [if_pos h]
theorem ordN_no {l : List Int} (h : grpB l = false) : ordN l = 0 := by unfold ordN; rw [if_neg (by simp [h])]
/-- The place of x modulo order k. -/
def dig (l : List Int) (x : Int) (k : Nat) : Int := x / PK l k % l.getD k 0
/-- The number with the places f. -/
def valK (l : List Int) (f : Nat → Int) : Nat → Int
  | 0 => 0
  | k + 1 => valK l f k + f k * PK l k
theorem ord_at {l : List Int} (h : grpB l = true) {k : Nat} (hk : k < l.length) : 2 ≤ l.getD k 0 ∧ l.getD k 0 ≤ 24 := (grpB_true h).2.1 k hk
theorem dig_bnd {l : List Int} (h : grpB l = true) (x : Int) {k : Nat} (hk : k < l.length) : 0 ≤ dig l x k ∧ dig l x k < l.getD k 0 := by
  have := ord_at h hk
  exact ⟨Int.emod_nonneg _ (by omega), Int.emod_lt_of_pos _ (by omega)⟩
theorem valK_bnd {l : List Int} (h : grpB l = true) (f : Nat → Int) (k : Nat) (hk : k ≤ l.length) (hf : ∀ j, j < k → 0 ≤ f j ∧ f j < l.getD j 0) : 0 ≤ valK l f k ∧ valK l f k < PK l k := by
  induction k with
  | zero => rw [PK_zero]; simp [valK]
  | succ k ih =>
    obtain ⟨h1, h2⟩ := ih (by omega) (fun j hj => hf j (by omega))
    obtain ⟨h3, h4⟩ := hf k (by omega)
    obtain ⟨p1, p2⟩ := PK_grp h k (by omega)
    rw [PK_succ l k (by omega)]
    simp only [valK]
    have a1 : 0 ≤ f k * PK l k := Int.mul_nonneg h3 (by omega)
    have a2 : (f k + 1) * PK l k ≤ l.getD k 0 * PK l k := Int.mul_le_mul_of_nonneg_right (by omega) (by omega)
    rw [Int.add_mul, Int.one_mul] at a2
    rw [Int.mul_comm (PK l k)]
    omega
theorem quo_step (l : List Int) (x : Int) (k : Nat) (hk : k < l.length) (h0 : 0 ≤ PK l k) : x / PK l k / l.getD k 0 = x / PK l (k + 1) := by
  rw [PK_succ l k hk, Int.ediv_ediv_of_nonneg h0]
theorem quo_bnd {x P : Int} (hx : 0 ≤ x) (hP : 1 ≤ P) : 0 ≤ x / P ∧ x / P ≤ x := ⟨Int.ediv_nonneg hx (by omega), Int.ediv_le_self _ hx⟩
end Go.Proofs.YtaacofbmbpkeoaaGreatDoor

namespace Go.Proofs.YtaacofbmbpkeoaaGreatDoor
open Go.RowKit
set_option maxRecDepth 1000000
theorem sIn (w : World) (x lo hi : Int) (r : Bool) (h : r = (decide (lo ≤ x) && decide (x ≤ hi))) :
    Calls Tryz.prog 74 #[.int .i64 x, .int .i64 lo, .int .i64 hi] w fun e w' => e = .returned (.bool r) ∧ w = w' := by
  subst h
  by_cases h1 : lo ≤ x <;> by_cases h2 : x ≤ hi <;> simp only [h1, h2, decide_true, decide_false, Bool.and_true, Bool.and_false]
  all_goals
    go_enter Tryz.func74, Tryz.ntmps74
    go_wp2
    go_ret
    exact ⟨rfl, rfl⟩
theorem sIsGroup (w : World) (a : Option Addr) (l : List Int) (n cap : Nat) (hn : n = l.length) (hm : n ≤ 9223372036854775807) (hi : Ints w a l) :
    Calls Tryz.prog 71 #[.agg #[.slice a n cap]] w fun e w' => e = .returned (.bool (grpB l)) ∧ Below w.heap.size w w' := by
  have HI := Lib.hid hi
  have HN := Lib.hid hn
  clear hi hn
  have C1 := newC w (.slice a n cap) 26 (n := w.heap.size) rfl
  go_enter Tryz.func71, Tryz.ntmps71
  go_wp2
  go_loop [3, 4] (fun p i => ∃ k : Nat, k ≤ n ∧ k ≤ 3 ∧ i = .int .i64 k ∧ p = .int .i64 (PK l k) ∧ Hid (∀ j, j < k → 2 ≤ l.getD j 0 ∧ l.getD j 0 ≤ 24)) (fun _ i => n - (intOf i).toNat)
  case atStart => exact ⟨0, by omega, by omega, rfl, by rw [PK_zero], Lib.hid (fun j h => by omega)⟩
  case round =>
    obtain ⟨k, hk, hk3, rfl, rfl, HR⟩ := hrel
    have hkl : k ≤ l.length := by rw [← HN.out]; exact hk
    have hsm := PK_small l k hkl hk3 HR.out
    have HB := Lib.hid (Joins.below_alloc1 w (.cells #[.slice a n cap] 26))
    by_cases hlt : k < n
    · have hkl2 : k < l.length := by rw [← HN.out]; exact hlt
      rcases HI.out with h0 | ⟨b, off, h1, hbl, hc⟩
      · rw [h0] at hkl2; simp at hkl2
      · subst h1
        have r1 : (w.alloc (.cells #[.slice (some ⟨b, off, none⟩) n cap] 26)).cell? ⟨b, off + k, none⟩ = some (.int .i64 (l.getD k 0)) := keepC (Joins.below_alloc1 w _) (by simpa using hbl) (hc k hkl2)
        clear hc hkl
        have HS := Lib.hid (PK_succ l k hkl2)
        by_cases hin : 2 ≤ l.getD k 0 ∧ l.getD k 0 ≤ 24
        · obtain ⟨hi1, hi2⟩ := hin
          have HX := Lib.hid (And.intro hi1 hi2)
          by_cases h2 : k ≤ 2
          · have hP := mul_bnd hsm.1 hsm.2 (show 1 ≤ l.getD k 0 by omega) hi2
            have HR2 : Hid (∀ j, j < k + 1 → 2 ≤ l.getD j 0 ∧ l.getD j 0 ≤ 24) := Lib.hid (fun j hj => by
              rcases Nat.lt_or_ge j k with h | h
              · exact HR.out j h
              · rw [show j = k by omega]; exact HX.out)
            obtain ⟨hP1, hP2⟩ := hP
            clear hkl2 hsm HX HR
            generalize l.getD k 0 = c at *
            generalize PK l k = N at *
            have g1 : true = (decide ((2 : Int) ≤ c) && decide (c ≤ 24)) := by simp [hi1, hi2]
            have G1 := Lib.hid g1
            clear g1
            go_wp2_with (go_at_call 74; refine (sIn _ _ _ _ _ G1.out).mono ?_; rintro e w' ⟨rfl, rfl⟩)
            go_round
            case rel => exact ⟨k + 1, by omega, by omega, by go_num, by rw [HS.out], HR2⟩
            case measure => simp [intOf]; omega
          · have HF := Lib.hid (grpB_long (l := l) (by omega))
            clear hkl2 hsm HX HR HS
            generalize l.getD k 0 = c at *
            generalize PK l k = N at *
            have G1 : Hid (true = (decide ((2 : Int) ≤ c) && decide (c ≤ 24))) := Lib.hid (by simp [hi1, hi2])
            go_wp2_with (go_at_call 74; refine (sIn _ _ _ _ _ G1.out).mono ?_; rintro e w' ⟨rfl, rfl⟩)
            go_ret
            exact ⟨by rw [HF.out]; rfl, HB.out⟩
        · have HF := Lib.hid (grpB_out k hkl2 hin)
          have G1 : Hid (false = (decide ((2 : Int) ≤ l.getD k 0) && decide (l.getD k 0 ≤ 24))) := Lib.hid (by
            have : (decide ((2 : Int) ≤ l.getD k 0) && decide (l.getD k 0 ≤ 24)) = decide (2 ≤ l.getD k 0 ∧ l.getD k 0 ≤ 24) := by rw [Bool.decide_and]
            rw [this, decide_eq_false hin])
          clear hkl2 hsm HR HS hin
          generalize l.getD k 0 = c at *
          generalize PK l k = N at *
          go_wp2_with (go_at_call 74; refine (sIn _ _ _ _ _ G1.out).mono ?_; rintro e w' ⟨rfl, rfl⟩)
          go_ret
          exact ⟨by rw [HF.out]; rfl, HB.out⟩
    · obtain rfl : k = n := by omega
      have HF := Lib.hid (grpB_of (l := l) (by rw [← HN.out]; omega) (by rw [← HN.out]; exact HR.out))
      rw [← PK_full, ← HN.out] at HF
      clear hkl hsm HR
      generalize PK l k = N at *
      go_wp2
      go_ret
      exact ⟨by rw [HF.out]; rfl, HB.out⟩
end Go.Proofs.YtaacofbmbpkeoaaGreatDoor

namespace Go.Proofs.YtaacofbmbpkeoaaGreatDoor
open Go.RowKit
set_option maxRecDepth 1000000
theorem sOrder (w : World) (a : Option Addr) (l : List Int) (n cap : Nat) (hn : n = l.length) (hg : grpB l = true) (hi : Ints w a l) :
    Calls Tryz.prog 44 #[.agg #[.slice a n cap]] w fun e w' => e = .returned (.int .i64 (prodI l)) ∧ Below w.heap.size w w' := by
  have HI := Lib.hid hi
  have HN := Lib.hid hn
  have HG := Lib.hid hg
  have hn3 : n ≤ 3 := by rw [hn]; exact (grpB_true hg).1
  clear hi hn hg
  have C1 := newC w (.slice a n cap) 26 (n := w.heap.size) rfl
  go_enter Tryz.func44, Tryz.ntmps44
  go_wp2
  go_loop [3, 4] (fun p i => ∃ k : Nat, k ≤ n ∧ i = .int .i64 k ∧ p = .int .i64 (PK l k)) (fun _ i => n - (intOf i).toNat)
  case atStart => exact ⟨0, by omega, rfl, by rw [PK_zero]⟩
  case round =>
    obtain ⟨k, hk, rfl, rfl⟩ := hrel
    have HB := Lib.hid (Joins.below_alloc1 w (.cells #[.slice a n cap] 26))
    by_cases hlt : k < n
    · have hkl2 : k < l.length := by rw [← HN.out]; exact hlt
      rcases HI.out with h0 | ⟨b, off, h1, hbl, hc⟩
      · rw [h0] at hkl2; simp at hkl2
      · subst h1
        have r1 : (w.alloc (.cells #[.slice (some ⟨b, off, none⟩) n cap] 26)).cell? ⟨b, off + k, none⟩ = some (.int .i64 (l.getD k 0)) := keepC (Joins.below_alloc1 w _) (by simpa using hbl) (hc k hkl2)
        have HS := Lib.hid (PK_succ l k hkl2)
        obtain ⟨p1, p2⟩ := PK_grp HG.out (k + 1) (by omega)
        rw [HS.out] at p1 p2
        clear hc hkl2
        generalize l.getD k 0 = c at *
        generalize PK l k = N at *
        go_wp2
        go_round
        case rel => exact ⟨k + 1, by omega, by go_num, by rw [HS.out]⟩
        case measure => simp [intOf]; omega
    · obtain rfl : k = n := by omega
      have HF := Lib.hid (PK_full l)
      rw [← HN.out] at HF
      go_wp2
      go_ret
      exact ⟨by rw [← HF.out]; rfl, HB.out⟩
/-- The places of the sum of two numbers. -/
def sdig (l : List Int) (x y : Int) (k : Nat) : Int := (x / PK l k + y / PK l k) % l.getD k 0
theorem sdig_bnd {l : List Int} (h : grpB l = true) (x y : Int) {k : Nat} (hk : k < l.length) : 0 ≤ sdig l x y k ∧ sdig l x y k < l.getD k 0 := by
  have := ord_at h hk
  exact ⟨Int.emod_nonneg _ (by omega), Int.emod_lt_of_pos _ (by omega)⟩
theorem mul_lt24 {D c N : Int} (h0 : 0 ≤ D) (h1 : D < c) (hc : c ≤ 24) (hN : 1 ≤ N) (hN2 : N ≤ 24) : 0 ≤ D * N ∧ D * N ≤ 552 :=
  ⟨Int.mul_nonneg h0 (by omega), Int.le_trans (Int.mul_le_mul (show D ≤ 23 by omega) hN2 (by omega) (by omega)) (by decide)⟩
/-- The sum of two elements, place by place. -/
def addN (l : List Int) (x y : Int) : Int := valK l (sdig l x y) l.length
set_option maxHeartbeats 1000000 in
theorem sAdd (w : World) (a : Option Addr) (l : List Int) (n cap : Nat) (x y : Int) (hx0 : 0 ≤ x) (hx : x ≤ 23) (hy0 : 0 ≤ y) (hy : y ≤ 23) (hn : n = l.length) (hg : grpB l = true) (hi : Ints w a l) :
    Calls Tryz.prog 46 #[.agg #[.slice a n cap], .int .i64 x, .int .i64 y] w fun e w' => e = .returned (.int .i64 (addN l x y)) ∧ Below w.heap.size w w' := by
  have HI := Lib.hid hi
  have HN := Lib.hid hn
  have HG := Lib.hid hg
  have hn3 : n ≤ 3 := by rw [hn]; exact (grpB_true hg).1
  clear hi hn hg
  have C1 := newC w (.slice a n cap) 26 (n := w.heap.size) rfl
  have HB := Lib.hid (Joins.below_alloc1 w (.cells #[.slice a n cap] 26))
  have HX := Lib.hid (And.intro hx0 hx)
  have HY := Lib.hid (And.intro hy0 hy)
  clear hx0 hx hy0 hy
  go_enter Tryz.func46, Tryz.ntmps46
  go_wp2
  go_loopw [1, 2, 7, 8, 9] (fun u v z p i wr => ∃ k : Nat, k ≤ n ∧ i = .int .i64 k ∧ p = .int .i64 (PK l k) ∧ u = .int .i64 (x / PK l k) ∧ v = .int .i64 (y / PK l k) ∧ z = .int .i64 (valK l (sdig l x y) k) ∧ Below (w.heap.size + 1) (w.alloc (.cells #[.slice a n cap] 26)) wr) (fun _ _ _ _ i _ => n - (intOf i).toNat)
  case atStart => exact ⟨0, by omega, rfl, by rw [PK_zero], by rw [PK_zero, Int.ediv_one], by rw [PK_zero, Int.ediv_one], rfl, Below.refl _ _⟩
  case round =>
    obtain ⟨k, hk, rfl, rfl, rfl, rfl, rfl, hbel⟩ := hrel
    have c1 := keepC hbel (by simp) C1
    by_cases hlt : k < n
    · have hkl2 : k < l.length := by rw [← HN.out]; exact hlt
      rcases HI.out with h0 | ⟨b, off, h1, hbl, hc⟩
      · rw [h0] at hkl2; simp at hkl2
      · subst h1
        have r1 : wr.cell? ⟨b, off + k, none⟩ = some (.int .i64 (l.getD k 0)) := keepC hbel (by simp; omega) (keepC (Joins.below_alloc1 w _) (by simpa using hbl) (hc k hkl2))
        have HS := Lib.hid (PK_succ l k hkl2)
        obtain ⟨p1, p2⟩ := PK_grp HG.out k (by omega)
        obtain ⟨q1, q2⟩ := PK_grp HG.out (k + 1) (by omega)
        rw [HS.out] at q1 q2
        obtain ⟨o1, o2⟩ := ord_at HG.out hkl2
        obtain ⟨x1, x2⟩ := quo_bnd HX.out.1 p1
        obtain ⟨y1, y2⟩ := quo_bnd HY.out.1 p1
        have x3 := Int.le_trans x2 HX.out.2
        have y3 := Int.le_trans y2 HY.out.2
        obtain ⟨d1, d2⟩ := sdig_bnd HG.out x y hkl2
        obtain ⟨m1, m2⟩ := mul_lt24 d1 d2 o2 p1 p2
        obtain ⟨v1, v2⟩ := valK_bnd HG.out (sdig l x y) k (by omega) (fun j hj => sdig_bnd HG.out x y (by omega))
        have QX := Lib.hid (quo_step l x k hkl2 (by omega))
        have QY := Lib.hid (quo_step l y k hkl2 (by omega))
        have HV : Hid (valK l (sdig l x y) (k + 1) = valK l (sdig l x y) k + sdig l x y k * PK l k) := Lib.hid rfl
        have HD : sdig l x y k = (x / PK l k + y / PK l k) % l.getD k 0 := rfl
        clear hc hkl2 x2 y2
        rw [HD] at d1 d2 m1 m2 HV
        clear HD
        generalize valK l (sdig l x y) k = z at *
        generalize x / PK l k = u at *
        generalize y / PK l k = v at *
        generalize l.getD k 0 = c at *
        generalize PK l k = N at *
        have a1 : 0 ≤ u % c := Int.emod_nonneg _ (by omega)
        have a2 : u % c < c := Int.emod_lt_of_pos _ (by omega)
        have a3 : 0 ≤ v % c := Int.emod_nonneg _ (by omega)
        have a4 : v % c < c := Int.emod_lt_of_pos _ (by omega)
        go_wp2
        go_quiet (fail)
        go_wp2
        go_roundw
        case rel => exact ⟨k + 1, by omega, by go_num, by rw [HS.out], by rw [QX.out], by rw [QY.out], by rw [HV.out], hbel.trans (Joins.below_draws _ _ _)⟩
        case measure => simp [intOf]; omega
    · obtain rfl : k = n := by omega
      have HF : Hid (addN l x y = valK l (sdig l x y) k) := Lib.hid (by rw [HN.out]; rfl)
      go_wp2
      go_ret
      exact ⟨by rw [HF.out]; rfl, HB.out.trans (hbel.mono (by omega))⟩
theorem sOrderOf (w : World) (a : Option Addr) (l : List Int) (n cap : Nat) (hn : n = l.length) (hm : n ≤ 9223372036854775807) (hi : Ints w a l) :
    Calls Tryz.prog 30 #[.agg #[.slice a n cap]] w fun e w' => e = .returned (.int .i64 (ordN l)) ∧ Below w.heap.size w w' := by
  have HI := Lib.hid (ints_alloc hi (.cells #[.slice a n cap] 26))
  have HN := Lib.hid hn
  have C1 := newC w (.slice a n cap) 26 (n := w.heap.size) rfl
  have HB := Lib.hid (Joins.below_alloc1 w (.cells #[.slice a n cap] 26))
  clear hi hn
  cases hg : grpB l with
  | true =>
    have HG := Lib.hid hg
    clear hg
    go_enter Tryz.func30, Tryz.ntmps30
    go_wp2_with (first
      | (go_at_call 71; refine (sIsGroup _ _ _ _ _ HN.out hm HI.out).mono ?_; rw [HG.out]; rintro e w1 ⟨rfl, hb1⟩; have c1 := keepC hb1 (by simp) C1; have HI1 := Lib.hid (HI.out.below rfl hb1))
      | (go_at_call 44; refine (sOrder _ _ _ _ _ HN.out HG.out HI1.out).mono ?_; rintro e w2 ⟨rfl, hb2⟩))
    go_ret
    exact ⟨by rw [ordN_grp HG.out]; rfl, HB.out.trans ((hb1.mono (by simp)).trans (hb2.mono (Nat.le_trans (by simp) hb1.size)))⟩
  | false =>
    have HG := Lib.hid hg
    clear hg
    go_enter Tryz.func30, Tryz.ntmps30
    go_wp2_with (first
      | (go_at_call 71; refine (sIsGroup _ _ _ _ _ HN.out hm HI.out).mono ?_; rw [HG.out]; rintro e w1 ⟨rfl, hb1⟩; have c1 := keepC hb1 (by simp) C1))
    go_ret
    exact ⟨by rw [ordN_no HG.out]; rfl, HB.out.trans (hb1.mono (by simp))⟩
theorem sIs (w : World) (a : Option Addr) (l : List Int) (n cap : Nat) (x : Int) (r : Bool) (hr : r = (decide (0 ≤ x) && decide (x < ordN l))) (hn : n = l.length) (hm : n ≤ 9223372036854775807) (hi : Ints w a l) :
    Calls Tryz.prog 95 #[.agg #[.slice a n cap], .int .i64 x] w fun e w' => e = .returned (.bool r) ∧ Below w.heap.size w w' := by
  have HI := Lib.hid (ints_alloc hi (.cells #[.slice a n cap] 26))
  have HN := Lib.hid hn
  have C1 := newC w (.slice a n cap) 26 (n := w.heap.size) rfl
  have HB := Lib.hid (Joins.below_alloc1 w (.cells #[.slice a n cap] 26))
  clear hi hn
  subst hr
  obtain ⟨N, HO⟩ : ∃ N, Hid (ordN l = N) := ⟨_, Lib.hid rfl⟩
  rw [HO.out]
  by_cases h1 : 0 ≤ x
  · obtain ⟨r, hr⟩ : ∃ r, decide (x < N) = r := ⟨_, rfl⟩
    cases r
    all_goals
      simp only [h1, hr, decide_true, Bool.and_true, Bool.and_false]
      go_enter Tryz.func95, Tryz.ntmps95
      go_wp2_with (go_at_call 30; refine (sOrderOf _ _ _ _ _ HN.out hm HI.out).mono ?_; rw [HO.out]; rintro e w1 ⟨rfl, hb1⟩)
      go_ret
      exact ⟨rfl, HB.out.trans (hb1.mono (by simp))⟩
  · simp only [h1, decide_false, Bool.false_and]
    have g1 : decide ((0 : Int) ≤ x) = false := decide_eq_false h1
    go_enter Tryz.func95, Tryz.ntmps95
    go_wp2
    go_ret
    exact ⟨rfl, HB.out⟩
end Go.Proofs.YtaacofbmbpkeoaaGreatDoor
