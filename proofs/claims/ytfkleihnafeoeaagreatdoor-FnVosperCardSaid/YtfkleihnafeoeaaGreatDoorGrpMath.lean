/- Plain mathematics of mixed places: products of orders, the places of a number, the number of places. -/
import Derived.Test.YtfkleihnafeoeaaGreatDoorGrpBase
namespace Go.Proofs.YtfkleihnafeoeaaGreatDoor
/-- The product of a list. -/
def prodI : List Int → Int
  | [] => 1
  | x :: t => x * prodI t
/-- The product of the first k. -/
def PK (l : List Int) (k : Nat) : Int := prodI (l.take k)
theorem PK_zero (l : List Int) : PK l 0 = 1 := by simp [PK, prodI]
theorem PK_succ (l : List Int) (k : Nat) (h : k < l.length) : PK l (k + 1) = PK l k * l.getD k 0 := by
  unfold PK
  induction l generalizing k with
  | nil => simp at h
  | cons x t ih =>
    cases k with
    | zero => simp [prodI]
    | succ k =>
      simp only [List.take_succ_cons, prodI, List.getD_cons_succ]
      rw [ih k (by simpa using h), Int.mul_assoc]
theorem PK_full (l : List Int) : PK l l.length = prodI l := by simp [PK]
/-- Whether the orders are those of a group. -/
def grpB (l : List Int) : Bool := decide (l.length ≤ 3) && (l.all (fun x => decide (2 ≤ x) && decide (x ≤ 24)) && decide (prodI l ≤ 24))
theorem mul_bnd {a b A B : Int} (ha : 1 ≤ a) (hA : a ≤ A) (hb : 1 ≤ b) (hB : b ≤ B) : 1 ≤ a * b ∧ a * b ≤ A * B := by
  refine ⟨?_, Int.mul_le_mul hA hB (by omega) (by omega)⟩
  have := Int.mul_le_mul ha hb (by omega) (by omega)
  simpa using this
theorem PK_bnd (l : List Int) (k : Nat) (hk : k ≤ l.length) (h : ∀ j, j < k → 2 ≤ l.getD j 0 ∧ l.getD j 0 ≤ 24) : 1 ≤ PK l k ∧ PK l k ≤ 24 ^ k := by
  induction k with
  | zero => rw [PK_zero]; simp
  | succ k ih =>
    obtain ⟨h1, h2⟩ := ih (by omega) (fun j hj => h j (by omega))
    obtain ⟨h3, h4⟩ := h k (by omega)
    rw [PK_succ l k (by omega), Int.pow_succ]
    exact mul_bnd h1 h2 (by omega) h4
theorem PK_small (l : List Int) (k : Nat) (hk : k ≤ l.length) (hk3 : k ≤ 3) (h : ∀ j, j < k → 2 ≤ l.getD j 0 ∧ l.getD j 0 ≤ 24) : 1 ≤ PK l k ∧ PK l k ≤ 13824 := by
  obtain ⟨h1, h2⟩ := PK_bnd l k hk h
  refine ⟨h1, Int.le_trans h2 ?_⟩
  have : k = 0 ∨ k = 1 ∨ k = 2 ∨ k = 3 := by omega
  rcases this with rfl | rfl | rfl | rfl <;> decide
theorem grpB_true {l : List Int} (h : grpB l = true) : l.length ≤ 3 ∧ (∀ j, j < l.length → 2 ≤ l.getD j 0 ∧ l.getD j 0 ≤ 24) ∧ prodI l ≤ 24 := by
  simp only [grpB, Bool.and_eq_true, decide_eq_true_eq, List.all_eq_true] at h
  obtain ⟨h1, h2, h3⟩ := h
  refine ⟨h1, fun j hj => ?_, h3⟩
  have := h2 (l.getD j 0) (by simp only [List.getD, List.getElem?_eq_getElem hj, Option.getD_some]; exact List.getElem_mem _)
  exact this
theorem grpB_of {l : List Int} (h1 : l.length ≤ 3) (h2 : ∀ j, j < l.length → 2 ≤ l.getD j 0 ∧ l.getD j 0 ≤ 24) : grpB l = decide (prodI l ≤ 24) := by
  have : l.all (fun x => decide (2 ≤ x) && decide (x ≤ 24)) = true := by
    rw [List.all_eq_true]
    intro x hx
    obtain ⟨j, hj, rfl⟩ := List.getElem_of_mem hx
    have := h2 j hj
    simp only [List.getD, List.getElem?_eq_getElem hj, Option.getD_some] at this
    simp [this.1, this.2]
  simp [grpB, h1, this]
theorem grpB_long {l : List Int} (h : 3 < l.length) : grpB l = false := by
  have : decide (l.length ≤ 3) = false := by simp; omega
  simp [grpB, this]
theorem grpB_out {l : List Int} (j : Nat) (hj : j < l.length) (h : ¬ (2 ≤ l.getD j 0 ∧ l.getD j 0 ≤ 24)) : grpB l = false := by
  cases hb : grpB l with
  | false => rfl
  | true => exact absurd ((grpB_true hb).2.1 j hj) h
/-- In a group the products of the first orders are at most 24. -/
theorem PK_grp {l : List Int} (h : grpB l = true) (k : Nat) (hk : k ≤ l.length) : 1 ≤ PK l k ∧ PK l k ≤ 24 := by
  obtain ⟨h1, h2, h3⟩ := grpB_true h
  have hpos : ∀ k, k ≤ l.length → 1 ≤ PK l k := fun k hk => (PK_bnd l k hk (fun j hj => h2 j (by omega))).1
  refine ⟨hpos k hk, ?_⟩
  have mono : ∀ d, k + d ≤ l.length → PK l k ≤ PK l (k + d) := by
    intro d
    induction d with
    | zero => intro _; exact Int.le_refl _
    | succ d ih =>
      intro hd
      refine Int.le_trans (ih (by omega)) ?_
      rw [show k + (d + 1) = k + d + 1 by omega, PK_succ l (k + d) (by omega)]
      have a1 := hpos (k + d) (by omega)
      have a2 := h2 (k + d) (by omega)
      have := Int.mul_le_mul (Int.le_refl (PK l (k + d))) (show 1 ≤ l.getD (k + d) 0 by omega) (by omega) (by omega)
      simpa using this
  have := mono (l.length - k) (by omega)
  rw [show k + (l.length - k) = l.length by omega, PK_full] at this
  omega
/-- The number of elements; 0 for no group. -/
def ordN (l : List Int) : Int := if grpB l = true then prodI l else 0
theorem ordN_grp {l : List Int} (h : grpB l = true) : ordN l = prodI l := by unfold ordN; rw [if_pos h]
theorem ordN_no {l : List Int} (h : grpB l = false) : ordN l = 0 := by unfold ordN; rw [if_neg (by simp [h])]
/-- The place of x modulo order k. -/
def dig (l : List Int) (x : Int) (k : Nat) : Int := x / PK l k % l.getD k 0
/-- The number with the places f. -/
def valK (l : List Int) (f : Nat → Int) : Nat → Int
  | 0 => 0
  | k + 1 => valK l f k + f k * PK l k
theorem ord_at {l : List Int} (h : grpB l = true) {k : Nat} (hk : k < l.length) : 2 ≤ l.getD k 0 ∧ l.getD k 0 ≤ 24 := (grpB_true h).2.1 k hk
theorem dig_bnd {l : List Int} (h : grpB l = true) (x : Int) {k : Nat} (hk : k < l.length) : 0 ≤ dig l x k ∧ dig l x k < l.getD k 0 := by
  have := ord_at h hk
  exact ⟨Int.emod_nonneg _ (by omega), Int.emod_lt_of_pos _ (by omega)⟩
theorem valK_bnd {l : List Int} (h : grpB l = true) (f : Nat → Int) (k : Nat) (hk : k ≤ l.length) (hf : ∀ j, j < k → 0 ≤ f j ∧ f j < l.getD j 0) : 0 ≤ valK l f k ∧ valK l f k < PK l k := by
  induction k with
  | zero => rw [PK_zero]; simp [valK]
  | succ k ih =>
    obtain ⟨h1, h2⟩ := ih (by omega) (fun j hj => hf j (by omega))
    obtain ⟨h3, h4⟩ := hf k (by omega)
    obtain ⟨p1, p2⟩ := PK_grp h k (by omega)
    rw [PK_succ l k (by omega)]
    simp only [valK]
    have a1 : 0 ≤ f k * PK l k := Int.mul_nonneg h3 (by omega)
    have a2 : (f k + 1) * PK l k ≤ l.getD k 0 * PK l k := Int.mul_le_mul_of_nonneg_right (by omega) (by omega)
    rw [Int.add_mul, Int.one_mul] at a2
    rw [Int.mul_comm (PK l k)]
    omega
theorem quo_step (l : List Int) (x : Int) (k : Nat) (hk : k < l.length) (h0 : 0 ≤ PK l k) : x / PK l k / l.getD k 0 = x / PK l (k + 1) := by
  rw [PK_succ l k hk, Int.ediv_ediv_of_nonneg h0]
theorem quo_bnd {x P : Int} (hx : 0 ≤ x) (hP : 1 ≤ P) : 0 ≤ x / P ∧ x / P ≤ x := ⟨Int.ediv_nonneg hx (by omega), Int.ediv_le_self _ hx⟩
end Go.Proofs.YtfkleihnafeoeaaGreatDoor
