/- Plain mathematics of places: the places of a number lead back to it and numbers to their places; sums, multiples, orders and negatives place by place. -/
import Derived.Test.YtfkleihnafeoeaaGreatDoorGrpSpec2
namespace Go.Proofs.YtfkleihnafeoeaaGreatDoor
/-- Orders from 1 on, at most three, with a product of at most 24. -/
structure Ords (l : List Int) : Prop where
  len : l.length ≤ 3
  pos : ∀ j, j < l.length → 1 ≤ l.getD j 0 ∧ l.getD j 0 ≤ 24
  PK : ∀ k, k ≤ l.length → 1 ≤ PK l k ∧ PK l k ≤ 24
theorem ords_grp {l : List Int} (h : grpB l = true) : Ords l :=
  ⟨(grpB_true h).1, fun j hj => ⟨by have := ord_at h hj; omega, (ord_at h hj).2⟩, fun k hk => PK_grp h k hk⟩
theorem Ords.prod {l : List Int} (h : Ords l) : 1 ≤ prodI l ∧ prodI l ≤ 24 := by rw [← PK_full]; exact h.PK _ (Nat.le_refl _)
theorem PK_dvd {l : List Int} (j : Nat) : ∀ m, j ≤ m → m ≤ l.length → ∃ S, PK l m = PK l j * S := by
  intro m
  induction m with
  | zero => intro h _; obtain rfl : j = 0 := by omega
            exact ⟨1, by simp⟩
  | succ m ih =>
    intro h hm
    by_cases e : j = m + 1
    · subst e; exact ⟨1, by simp⟩
    · obtain ⟨S, hS⟩ := ih (by omega) (by omega)
      exact ⟨S * l.getD m 0, by rw [PK_succ l m (by omega), hS, Int.mul_assoc]⟩
/-- The places of the value are the places. -/
theorem dig_val {l : List Int} (h : Ords l) (f : Nat → Int) (m j : Nat) (hj : j < m) (hm : m ≤ l.length) (hf : ∀ i, i < m → 0 ≤ f i ∧ f i < l.getD i 0) : dig l (valK l f m) j = f j := by
  have top : ∀ d, j + 1 + d ≤ m → ∃ T, valK l f (j + 1 + d) = valK l f (j + 1) + PK l (j + 1) * T := by
    intro d
    induction d with
    | zero => intro _; exact ⟨0, by simp⟩
    | succ d ih =>
      intro hd
      obtain ⟨T, hT⟩ := ih (by omega)
      obtain ⟨S, hS⟩ := PK_dvd (l := l) (j + 1) (j + 1 + d) (by omega) (by omega)
      refine ⟨T + f (j + 1 + d) * S, ?_⟩
      rw [show j + 1 + (d + 1) = j + 1 + d + 1 by omega]
      simp only [valK]
      simp only [valK] at hT
      rw [hT, hS, Int.mul_add, Int.add_assoc]
      congr 2
      rw [← Int.mul_assoc, ← Int.mul_assoc, Int.mul_comm (f _)]
  obtain ⟨T, hT⟩ := top (m - (j + 1)) (by omega)
  rw [show j + 1 + (m - (j + 1)) = m by omega] at hT
  have hb : 0 ≤ valK l f j ∧ valK l f j < PK l j := by
    have : ∀ k, k ≤ j → 0 ≤ valK l f k ∧ valK l f k < PK l k := by
      intro k
      induction k with
      | zero => intro _; rw [PK_zero]; simp [valK]
      | succ k ih =>
        intro hk
        obtain ⟨h1, h2⟩ := ih (by omega)
        obtain ⟨h3, h4⟩ := hf k (by omega)
        obtain ⟨p1, p2⟩ := h.PK k (by omega)
        rw [PK_succ l k (by omega)]
        simp only [valK]
        have a1 : 0 ≤ f k * PK l k := Int.mul_nonneg h3 (by omega)
        have a2 : (f k + 1) * PK l k ≤ l.getD k 0 * PK l k := Int.mul_le_mul_of_nonneg_right (by omega) (by omega)
        rw [Int.add_mul, Int.one_mul] at a2
        rw [Int.mul_comm (PK l k)]
        omega
    exact this j (Nat.le_refl _)
  obtain ⟨p1, p2⟩ := h.PK j (by omega)
  obtain ⟨f1, f2⟩ := hf j hj
  unfold dig
  rw [hT, PK_succ l j (by omega)]
  simp only [valK]
  rw [show valK l f j + f j * PK l j + PK l j * l.getD j 0 * T = valK l f j + (f j + l.getD j 0 * T) * PK l j by
    rw [Int.add_mul, Int.add_assoc, Int.mul_assoc, Int.mul_comm (PK l j)]]
  rw [Int.add_mul_ediv_right _ _ (by omega), Int.ediv_eq_zero_of_lt hb.1 hb.2, Int.zero_add, Int.add_mul_emod_self_left, Int.emod_eq_of_lt f1 f2]
theorem val_mod {l : List Int} (h : Ords l) (x : Int) : ∀ k, k ≤ l.length → valK l (dig l x) k = x % PK l k := by
  intro k
  induction k with
  | zero => intro _; rw [PK_zero]; simp [valK, Int.emod_one]
  | succ k ih =>
    intro hk
    obtain ⟨p1, p2⟩ := h.PK k (by omega)
    obtain ⟨q1, q2⟩ := h.pos k (by omega)
    simp only [valK]
    rw [ih (by omega), PK_succ l k (by omega)]
    unfold dig
    generalize l.getD k 0 = c at *
    generalize _root_.Go.Proofs.YtfkleihnafeoeaaGreatDoor.PK l k = P at *
    have e1 := Int.mul_ediv_add_emod x P
    have e2 := Int.mul_ediv_add_emod (x / P) c
    have b1 := Int.emod_nonneg x (show P ≠ 0 by omega)
    have b2 := Int.emod_lt_of_pos x (show 0 < P by omega)
    have b3 := Int.emod_nonneg (x / P) (show c ≠ 0 by omega)
    have b4 := Int.emod_lt_of_pos (x / P) (show 0 < c by omega)
    have hx : x = (x % P + x / P % c * P) + P * c * (x / P / c) := by
      have e3 : P * (x / P) = P * (c * (x / P / c) + x / P % c) := by rw [e2]
      rw [Int.mul_add, ← Int.mul_assoc, Int.mul_comm P (x / P % c)] at e3
      omega
    have m1 : 0 ≤ x / P % c * P := Int.mul_nonneg b3 (by omega)
    have m2 : (x / P % c + 1) * P ≤ c * P := Int.mul_le_mul_of_nonneg_right (by omega) (by omega)
    rw [Int.add_mul, Int.one_mul] at m2
    have m3 : P * c = c * P := Int.mul_comm _ _
    calc x % P + x / P % c * P = (x % P + x / P % c * P) % (P * c) := (Int.emod_eq_of_lt (by omega) (by omega)).symm
      _ = ((x % P + x / P % c * P) + P * c * (x / P / c)) % (P * c) := by rw [Int.add_mul_emod_self_left]
      _ = x % (P * c) := by rw [← hx]
/-- The value of the places of x is x. -/
theorem val_dig {l : List Int} (h : Ords l) {x : Int} (h0 : 0 ≤ x) (h1 : x < prodI l) : valK l (dig l x) l.length = x := by
  rw [val_mod h x _ (Nat.le_refl _), PK_full, Int.emod_eq_of_lt h0 h1]
theorem val_congr (l : List Int) (f g : Nat → Int) (k : Nat) (h : ∀ j, j < k → f j = g j) : valK l f k = valK l g k := by
  induction k with
  | zero => rfl
  | succ k ih => simp only [valK]; rw [ih (fun j hj => h j (by omega)), h k (by omega)]
/-- Places of a sum. -/
theorem sdig_eq (l : List Int) (x y : Int) (k : Nat) : sdig l x y k = (dig l x k + dig l y k) % l.getD k 0 := by
  unfold sdig dig; rw [← Int.add_emod]
/-- k times x, place by place. -/
def mulF (l : List Int) (x k : Int) (j : Nat) : Int := dig l x j * k % l.getD j 0
def mulN (l : List Int) (x k : Int) : Int := valK l (mulF l x k) l.length
theorem mulF_bnd {l : List Int} (h : Ords l) (x k : Int) {j : Nat} (hj : j < l.length) : 0 ≤ mulF l x k j ∧ mulF l x k j < l.getD j 0 := by
  have := h.pos j hj
  exact ⟨Int.emod_nonneg _ (by omega), Int.emod_lt_of_pos _ (by omega)⟩
theorem Ords.val_bnd {l : List Int} (h : Ords l) (f : Nat → Int) (hf : ∀ j, j < l.length → 0 ≤ f j ∧ f j < l.getD j 0) : ∀ k, k ≤ l.length → 0 ≤ valK l f k ∧ valK l f k < _root_.Go.Proofs.YtfkleihnafeoeaaGreatDoor.PK l k := by
  intro k
  induction k with
  | zero => intro _; rw [PK_zero]; simp [valK]
  | succ k ih =>
    intro hk
    obtain ⟨h1, h2⟩ := ih (by omega)
    obtain ⟨h3, h4⟩ := hf k (by omega)
    obtain ⟨p1, p2⟩ := h.PK k (by omega)
    rw [PK_succ l k (by omega)]
    simp only [valK]
    have a1 : 0 ≤ f k * _root_.Go.Proofs.YtfkleihnafeoeaaGreatDoor.PK l k := Int.mul_nonneg h3 (by omega)
    have a2 : (f k + 1) * _root_.Go.Proofs.YtfkleihnafeoeaaGreatDoor.PK l k ≤ l.getD k 0 * _root_.Go.Proofs.YtfkleihnafeoeaaGreatDoor.PK l k := Int.mul_le_mul_of_nonneg_right (by omega) (by omega)
    rw [Int.add_mul, Int.one_mul] at a2
    rw [Int.mul_comm (_root_.Go.Proofs.YtfkleihnafeoeaaGreatDoor.PK l k)]
    omega
theorem mulN_bnd {l : List Int} (h : Ords l) (x k : Int) : 0 ≤ mulN l x k ∧ mulN l x k < prodI l := by
  rw [← PK_full]; exact h.val_bnd _ (fun j hj => mulF_bnd h x k hj) _ (Nat.le_refl _)
theorem mulN_dig {l : List Int} (h : Ords l) (x k : Int) {j : Nat} (hj : j < l.length) : dig l (mulN l x k) j = mulF l x k j :=
  dig_val h _ _ _ hj (Nat.le_refl _) (fun _ hi => mulF_bnd h x k hi)
theorem mulN_zero {l : List Int} (x : Int) : mulN l x 0 = 0 := by
  unfold mulN
  have : ∀ k, valK l (mulF l x 0) k = 0 := by
    intro k; induction k with
    | zero => rfl
    | succ k ih => simp [valK, ih, mulF]
  exact this _
theorem mulN_one {l : List Int} (h : Ords l) {x : Int} (h0 : 0 ≤ x) (h1 : x < prodI l) : mulN l x 1 = x := by
  unfold mulN
  rw [val_congr l _ (dig l x) _ (fun j hj => by
    have := h.pos j hj
    unfold mulF dig; rw [Int.mul_one, Int.emod_emod])]
  exact val_dig h h0 h1
/-- Once more x. -/
theorem mulN_succ {l : List Int} (h : Ords l) (x k : Int) : addN l (mulN l x k) x = mulN l x (k + 1) := by
  unfold addN
  rw [show mulN l x (k + 1) = valK l (mulF l x (k + 1)) l.length from rfl]
  apply val_congr
  intro j hj
  rw [sdig_eq, mulN_dig h x k hj]
  unfold mulF
  rw [Int.mul_add, Int.mul_one, Int.emod_add_emod]
theorem mulN_eq_zero {l : List Int} (h : Ords l) (x k : Int) : mulN l x k = 0 ↔ ∀ j, j < l.length → mulF l x k j = 0 := by
  constructor
  · intro e j hj
    rw [← mulN_dig h x k hj, e]
    unfold dig; simp
  · intro e
    unfold mulN
    rw [val_congr l _ (fun _ => 0) _ e]
    have : ∀ k, valK l (fun _ => 0) k = 0 := by
      intro k; induction k with
      | zero => rfl
      | succ k ih => simp [valK, ih]
    exact this _
/-- The negative. -/
def negN (l : List Int) (x : Int) : Int := mulN l x (-1)
theorem mul_neg {l : List Int} (h : Ords l) (x k : Int) : mulN l (negN l x) k = mulN l x (-k) := by
  apply val_congr
  intro j hj
  unfold mulF negN
  rw [mulN_dig h x (-1) hj]
  unfold mulF
  rw [Int.mul_emod, Int.emod_emod, ← Int.mul_emod]
  congr 1
  rw [Int.mul_assoc]; congr 1; omega
theorem neg_place (d c : Int) : (c - d) % c = d * -1 % c := by
  rw [show d * -1 = -d by omega, show c - d = -d + c by omega, Int.add_emod_right]
/-- How often x adds up to 0. -/
theorem ordE_ex {l : List Int} (h : Ords l) (x : Int) : ∃ m : Nat, 1 ≤ m ∧ m ≤ 24 ∧ mulN l x m = 0 := by
  obtain ⟨p1, p2⟩ := h.prod
  refine ⟨(prodI l).toNat, by omega, by omega, (mulN_eq_zero h x _).2 (fun j hj => ?_)⟩
  unfold mulF
  rw [show (((prodI l).toNat : Nat) : Int) = prodI l by omega]
  obtain ⟨S, hS⟩ := PK_dvd (l := l) (j + 1) l.length (by omega) (Nat.le_refl _)
  rw [← PK_full, hS, PK_succ l j hj]
  rw [show dig l x j * (_root_.Go.Proofs.YtfkleihnafeoeaaGreatDoor.PK l j * l.getD j 0 * S) = l.getD j 0 * (dig l x j * _root_.Go.Proofs.YtfkleihnafeoeaaGreatDoor.PK l j * S) by
    rw [Int.mul_comm (_root_.Go.Proofs.YtfkleihnafeoeaaGreatDoor.PK l j), Int.mul_assoc, ← Int.mul_assoc, Int.mul_comm (dig l x j), Int.mul_assoc, ← Int.mul_assoc (dig l x j)]]
  exact Int.mul_emod_right _ _
theorem least_of (p : Nat → Prop) : ∀ m, p m → ∃ k, k ≤ m ∧ p k ∧ ∀ i, i < k → ¬ p i := by
  intro m
  induction m using Nat.strongRecOn with
  | ind m ih =>
    intro hm
    by_cases h : ∃ i, i < m ∧ p i
    · obtain ⟨i, hi, hp⟩ := h
      obtain ⟨k, hk, hpk, hl⟩ := ih i hi hp
      exact ⟨k, by omega, hpk, hl⟩
    · exact ⟨m, Nat.le_refl _, hm, fun i hi hp => h ⟨i, hi, hp⟩⟩
/-- m is the order of x: the least positive number of times that x adds up to 0. -/
def IsOrd (l : List Int) (x : Int) (m : Nat) : Prop := 1 ≤ m ∧ m ≤ 24 ∧ mulN l x m = 0 ∧ ∀ i : Nat, 1 ≤ i → i < m → mulN l x i ≠ 0
theorem isOrd_ex {l : List Int} (h : Ords l) (x : Int) : ∃ m, IsOrd l x m := by
  obtain ⟨m, h1, h2, h3⟩ := ordE_ex h x
  obtain ⟨k, k1, k2, k3⟩ := least_of (fun m => 1 ≤ m ∧ mulN l x (m : Int) = 0) m ⟨h1, h3⟩
  exact ⟨k, k2.1, by omega, k2.2, fun i hi hlt e => k3 i hlt ⟨hi, e⟩⟩
/-- The least common multiple of the first k orders. -/
def lcmK (l : List Int) : Nat → Int
  | 0 => 1
  | k + 1 => ((lcmK l k).lcm (l.getD k 0) : Nat)
theorem lcmK_bnd {l : List Int} (h : Ords l) : ∀ k, k ≤ l.length → 1 ≤ lcmK l k ∧ lcmK l k ≤ _root_.Go.Proofs.YtfkleihnafeoeaaGreatDoor.PK l k := by
  intro k
  induction k with
  | zero => intro _; rw [PK_zero]; simp [lcmK]
  | succ k ih =>
    intro hk
    obtain ⟨h1, h2⟩ := ih (by omega)
    obtain ⟨c1, c2⟩ := h.pos k (by omega)
    rw [PK_succ l k (by omega)]
    simp only [lcmK]
    generalize l.getD k 0 = c at *
    generalize lcmK l k = e at *
    generalize _root_.Go.Proofs.YtfkleihnafeoeaaGreatDoor.PK l k = P at *
    obtain ⟨en, rfl⟩ : ∃ n : Nat, e = n := ⟨e.toNat, by omega⟩
    obtain ⟨cn, rfl⟩ : ∃ n : Nat, c = n := ⟨c.toNat, by omega⟩
    have hl : (en : Int).lcm (cn : Int) = Nat.lcm en cn := rfl
    rw [hl]
    have hpos : 0 < Nat.lcm en cn := Nat.lcm_pos (by omega) (by omega)
    have hle : Nat.lcm en cn ≤ en * cn := Nat.le_of_dvd (Nat.mul_pos (by omega) (by omega)) (Nat.lcm_dvd (Nat.dvd_mul_right _ _) (Nat.dvd_mul_left _ _))
    refine ⟨by omega, ?_⟩
    have h3 : ((en * cn : Nat) : Int) ≤ P * cn := by
      rw [Int.natCast_mul]
      exact Int.mul_le_mul_of_nonneg_right h2 (by omega)
    omega
end Go.Proofs.YtfkleihnafeoeaaGreatDoor
