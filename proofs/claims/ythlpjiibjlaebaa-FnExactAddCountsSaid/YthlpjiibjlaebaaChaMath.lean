/- Ahead of stage 7: characters as exponents: additive in both places, the same both ways, and nothing but 0 where all are 0. -/
import Derived.Test.YthlpjiibjlaebaaGrpAx
namespace Go.Proofs.Ythlpjiibjlaebaa
/-- The exponent of the group. -/
def expN (l : List Int) : Int := lcmK l l.length
theorem lcm_dvd7 {l : List Int} : ∀ k, ∀ j, j < k → l.getD j 0 ∣ lcmK l k
  | 0, _, h => by omega
  | k + 1, j, h => by
    simp only [lcmK]
    by_cases e : j = k
    · subst e
      exact Int.dvd_lcm_right _ _
    · exact Int.dvd_trans (lcm_dvd7 k j (by omega)) (Int.dvd_lcm_left _ _)
theorem expN_pos {l : List Int} (h : Ords l) : 1 ≤ expN l := (lcmK_bnd h _ (Nat.le_refl _)).1
theorem exp_quo {l : List Int} (h : Ords l) {j : Nat} (hj : j < l.length) : expN l = l.getD j 0 * (expN l / l.getD j 0) ∧ 1 ≤ expN l / l.getD j 0 := by
  have h1 := expN_pos h
  have h2 := (h.pos j hj).1
  obtain ⟨q, hq⟩ := lcm_dvd7 (l := l) l.length j hj
  have h3 : expN l = l.getD j 0 * q := hq
  have h4 : expN l / l.getD j 0 = q := by rw [h3]; exact Int.mul_ediv_cancel_left q (by omega)
  rw [h4]
  refine ⟨h3, ?_⟩
  rcases Int.lt_or_le 0 q with hp | hp
  · omega
  · exfalso
    have : l.getD j 0 * q ≤ 0 := Int.mul_nonpos_of_nonneg_of_nonpos (by omega) hp
    omega
/-- The sum of the products of the first places. -/
def chK (l : List Int) (k x : Int) : Nat → Int
  | 0 => 0
  | j + 1 => chK l k x j + dig l k j * dig l x j * (expN l / l.getD j 0)
/-- The character's value, as an exponent. -/
def chN (l : List Int) (k x : Int) : Int := chK l k x l.length % expN l
theorem chK_comm (l : List Int) (k x : Int) : ∀ j, chK l k x j = chK l x k j
  | 0 => rfl
  | j + 1 => by
    unfold chK
    rw [chK_comm l k x j, Int.mul_comm (dig l k j) (dig l x j)]
theorem chN_comm (l : List Int) (k x : Int) : chN l k x = chN l x k := by unfold chN; rw [chK_comm]
theorem chN_bnd {l : List Int} (h : Ords l) (k x : Int) : 0 ≤ chN l k x ∧ chN l k x < expN l := by
  have := expN_pos h
  exact ⟨Int.emod_nonneg _ (by omega), Int.emod_lt_of_pos _ (by omega)⟩
theorem chK_zero (l : List Int) (k : Int) : ∀ j, chK l k 0 j = 0
  | 0 => rfl
  | j + 1 => by
    unfold chK
    rw [chK_zero l k j, dig_zero0]
    simp
theorem chN_zero (l : List Int) (k : Int) : chN l k 0 = 0 := by unfold chN; rw [chK_zero]; simp
theorem chK_add {l : List Int} (h : Ords l) (k x y : Int) : ∀ j, j ≤ l.length → ∃ q, chK l k (addN l x y) j = chK l k x j + chK l k y j + expN l * q
  | 0, _ => ⟨0, by simp [chK]⟩
  | j + 1, hj => by
    obtain ⟨q, hq⟩ := chK_add h k x y j (by omega)
    have hd := addN_dig h x y (j := j) (by omega)
    obtain ⟨he, _⟩ := exp_quo h (j := j) (by omega)
    unfold chK
    rw [hq, hd]
    obtain ⟨a, ha⟩ : ∃ a, dig l x j = a := ⟨_, rfl⟩
    obtain ⟨b, hb⟩ : ∃ b, dig l y j = b := ⟨_, rfl⟩
    obtain ⟨c, hc⟩ : ∃ c, dig l k j = c := ⟨_, rfl⟩
    obtain ⟨o, ho⟩ : ∃ o, l.getD j 0 = o := ⟨_, rfl⟩
    rw [ha, hb, hc, ho]
    rw [ho] at he
    obtain ⟨e, hE⟩ : ∃ e, expN l / o = e := ⟨_, rfl⟩
    rw [hE] at he ⊢
    refine ⟨q - c * ((a + b) / o), ?_⟩
    have h1 : (a + b) % o = a + b - o * ((a + b) / o) := by rw [Int.emod_def]
    rw [h1]
    obtain ⟨t, ht⟩ : ∃ t, (a + b) / o = t := ⟨_, rfl⟩
    rw [ht, he]
    have e1 : c * (a + b - o * t) * e = c * a * e + c * b * e - o * e * (c * t) := by
      rw [Int.mul_sub, Int.mul_add, Int.sub_mul, Int.add_mul]
      congr 1
      rw [Int.mul_assoc, Int.mul_comm c, Int.mul_assoc, Int.mul_assoc, Int.mul_assoc]
      congr 1
      rw [Int.mul_comm t, Int.mul_assoc, Int.mul_comm e]
    rw [e1, Int.mul_sub]
    omega
theorem chN_add {l : List Int} (h : Ords l) (k x y : Int) : (chN l k x + chN l k y) % expN l = chN l k (addN l x y) := by
  obtain ⟨q, hq⟩ := chK_add h k x y l.length (Nat.le_refl _)
  unfold chN
  rw [hq, Int.add_mul_emod_self_left, ← Int.add_emod]
theorem valK_none (l : List Int) : ∀ k, valK l (fun _ => 0) k = 0
  | 0 => rfl
  | k + 1 => by
    unfold valK
    rw [valK_none l k]
    simp
/-- The element with 1 at the place j. -/
def unitN (l : List Int) (j : Nat) : Int := valK l (fun i => if i = j then 1 else 0) l.length
theorem unit_in {l : List Int} (hg : grpB l = true) (j : Nat) : 0 ≤ unitN l j ∧ unitN l j < prodI l := by
  have := valK_bnd hg (fun i => if i = j then 1 else 0) l.length (Nat.le_refl _) (fun i hi => by
    have := ord_at hg hi
    show (0 : Int) ≤ (if i = j then 1 else 0) ∧ (if i = j then (1 : Int) else 0) < _
    split <;> omega)
  rw [PK_full] at this
  exact this
theorem unit_dig {l : List Int} (hg : grpB l = true) {i j : Nat} (hi : i < l.length) : dig l (unitN l j) i = if i = j then 1 else 0 :=
  dig_val (ords_grp hg) _ l.length i hi (Nat.le_refl _) (fun i hi => by
    have := ord_at hg hi
    show (0 : Int) ≤ (if i = j then 1 else 0) ∧ (if i = j then (1 : Int) else 0) < _
    split <;> omega)
theorem chK_unit {l : List Int} (hg : grpB l = true) (x : Int) {j : Nat} : ∀ m, m ≤ l.length → chK l (unitN l j) x m = if j < m then dig l x j * (expN l / l.getD j 0) else 0
  | 0, _ => by simp [chK]
  | m + 1, hm => by
    unfold chK
    rw [chK_unit hg x m (by omega), unit_dig hg (by omega)]
    by_cases e : m = j
    · subst e
      rw [if_pos rfl, if_neg (by omega), if_pos (by omega)]
      simp
    · rw [if_neg e]
      by_cases h : j < m
      · rw [if_pos h, if_pos (by omega)]
        simp
      · rw [if_neg h, if_neg (by omega)]
        simp
theorem chN_all {l : List Int} (hg : grpB l = true) {x : Int} (h0 : 0 ≤ x) (h1 : x < prodI l) (h : ∀ k, 0 ≤ k → k < prodI l → chN l k x = 0) : x = 0 := by
  have hO := ords_grp hg
  have hd : ∀ j, j < l.length → dig l x j = 0 := fun j hj => by
    have hb := dig_bnd hg x hj
    obtain ⟨he, hq⟩ := exp_quo hO hj
    have hu := unit_in hg j
    have hz := h (unitN l j) hu.1 hu.2
    unfold chN at hz
    rw [chK_unit hg x l.length (Nat.le_refl _), if_pos hj] at hz
    obtain ⟨d, ed⟩ : ∃ d, dig l x j = d := ⟨_, rfl⟩
    obtain ⟨o, eo⟩ : ∃ o, l.getD j 0 = o := ⟨_, rfl⟩
    rw [eo] at he hq hb hz
    rw [ed] at hb hz
    obtain ⟨q, eq⟩ : ∃ q, expN l / o = q := ⟨_, rfl⟩
    rw [eq] at he hq hz
    rw [ed]
    have h2 : 0 ≤ d * q := Int.mul_nonneg hb.1 (by omega)
    have h3 : d * q < expN l := by
      rw [he]
      exact Int.mul_lt_mul_of_pos_right hb.2 (by omega)
    rw [Int.emod_eq_of_lt h2 h3] at hz
    rcases Int.mul_eq_zero.1 hz with h4 | h4
    · exact h4
    · omega
  rw [← val_dig hO h0 h1, val_congr l (dig l x) (fun _ => 0) l.length hd, valK_none]
end Go.Proofs.Ythlpjiibjlaebaa
