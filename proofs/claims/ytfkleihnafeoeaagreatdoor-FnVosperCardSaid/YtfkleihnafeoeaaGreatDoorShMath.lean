/- Plain mathematics of the program's shift of a set: place by place, all elements at once. -/
import Derived.Test.YtfkleihnafeoeaaGreatDoorSetMem
namespace Go.Proofs.YtfkleihnafeoeaaGreatDoor
set_option maxRecDepth 1000000
/-- One place of y moved on by up, within blocks of B. -/
def stepF (B up y : Nat) : Nat := y / B * B + (y % B + up) % B
/-- The elements below n that stay within their block of B when moved on: those below d in it. -/
def stayM (n B d : Nat) : Nat := (2 ^ d - 1) * ((2 ^ n - 1) / (2 ^ B - 1))
/-- A set with one place moved on. -/
def stepS (n B up s : Nat) : Nat := ((s &&& stayM n B (B - up)) <<< up) ||| ((s ^^^ (s &&& stayM n B (B - up))) >>> (B - up))
def stayC : Bool := (List.range 25).all fun n => (List.range 25).all fun B => (B == 0 || n % B != 0) || (List.range (B + 1)).all fun d => (List.range 24).all fun k => (stayM n B d).testBit k == (decide (k < n) && decide (k % B < d))
theorem stayC_ok : stayC = true := by decide +kernel
theorem stay_all (n : Nat) (hn : n < 25) (B : Nat) (hB : B < 25) (h1 : 1 ≤ B) (hd : n % B = 0) (d : Nat) (h2 : d ≤ B) (k : Nat) (hk : k < 24) : (stayM n B d).testBit k = (decide (k < n) && decide (k % B < d)) := by
  have h := stayC_ok
  unfold stayC at h
  have a1 := List.all_eq_true.1 (List.all_eq_true.1 h n (List.mem_range.2 hn)) B (List.mem_range.2 hB)
  rw [Bool.or_eq_true] at a1
  rcases a1 with a1 | a1
  · rw [Bool.or_eq_true] at a1
    rcases a1 with a1 | a1
    · simp at a1; omega
    · simp [hd] at a1
  · have a2 := List.all_eq_true.1 (List.all_eq_true.1 a1 d (List.mem_range.2 (by omega))) k (List.mem_range.2 hk)
    exact eq_of_beq a2
theorem stay_lt {n B d : Nat} (hn : n ≤ 24) (hd : d ≤ 24) : stayM n B d < 281474976710656 := by
  unfold stayM
  have h1 : 2 ^ d ≤ 2 ^ 24 := Nat.pow_le_pow_right (by decide) hd
  have h2 : 2 ^ n ≤ 2 ^ 24 := Nat.pow_le_pow_right (by decide) hn
  have h3 := Nat.two_pow_pos d
  have h4 := Nat.two_pow_pos n
  have h5 : (2 ^ n - 1) / (2 ^ B - 1) ≤ 2 ^ 24 - 1 := Nat.le_trans (Nat.div_le_self _ _) (by omega)
  have h6 := Nat.mul_le_mul (show 2 ^ d - 1 ≤ 2 ^ 24 - 1 by omega) h5
  exact Nat.lt_of_le_of_lt h6 (by decide)
theorem stepF_lt {n B up y : Nat} (hB : 1 ≤ B) (hd : n % B = 0) (hy : y < n) : stepF B up y < n := by
  unfold stepF
  have h1 : y / B < n / B := (Nat.div_lt_iff_lt_mul (by omega)).2 (by rw [Nat.div_mul_cancel (Nat.dvd_of_mod_eq_zero hd)]; exact hy)
  have h2 := Nat.mod_lt (y % B + up) (show B > 0 by omega)
  have h3 : (y / B + 1) * B ≤ n / B * B := Nat.mul_le_mul_right B h1
  rw [Nat.div_mul_cancel (Nat.dvd_of_mod_eq_zero hd), Nat.add_mul] at h3
  generalize y / B * B = Q at *
  omega
theorem bit_of_lt {s n k : Nat} (hs : s < 2 ^ n) (h : s.testBit k = true) : k < n := by
  rcases Nat.lt_or_ge k n with h1 | h1
  · exact h1
  · rw [bit_no hs k h1] at h; cases h
theorem stepS_bit {n B up s : Nat} (hn : n ≤ 24) (hB : 1 ≤ B) (hd : n % B = 0) (hn0 : 1 ≤ n) (hup : up < B) (hs : s < 2 ^ n) (z : Nat) :
    (stepS n B up s).testBit z = true ↔ ∃ y, s.testBit y = true ∧ stepF B up y = z := by
  have hBn : B ≤ n := Nat.le_of_dvd hn0 (Nat.dvd_of_mod_eq_zero hd)
  have hst : ∀ k, s.testBit k = true → (stayM n B (B - up)).testBit k = decide (k % B < B - up) := fun k hk => by
    have hkn := bit_of_lt hs hk
    rw [stay_all n (by omega) B (by omega) hB hd (B - up) (by omega) k (by omega)]
    simp [hkn]
  unfold stepS
  rw [Nat.testBit_or, Nat.testBit_shiftLeft, Nat.testBit_shiftRight, Nat.testBit_and, Nat.testBit_xor, Nat.testBit_and]
  constructor
  · intro h
    rw [Bool.or_eq_true] at h
    rcases h with h | h
    · simp only [Bool.and_eq_true, decide_eq_true_eq] at h
      obtain ⟨h1, h2, h3⟩ := h
      rw [hst _ h2, decide_eq_true_eq] at h3
      refine ⟨z - up, h2, ?_⟩
      unfold stepF
      have e := Nat.div_add_mod' (z - up) B
      rw [Nat.mod_eq_of_lt (by omega)]
      generalize (z - up) / B * B = Q at *
      omega
    · have h2 : s.testBit (B - up + z) = true := by
        cases hc : s.testBit (B - up + z) with
        | true => rfl
        | false => rw [hc] at h; simp at h
      rw [hst _ h2, h2] at h
      have h3 : ¬ (B - up + z) % B < B - up := by simpa using h
      refine ⟨B - up + z, h2, ?_⟩
      unfold stepF
      have e := Nat.div_add_mod' (B - up + z) B
      have hm := Nat.mod_lt (B - up + z) (show B > 0 by omega)
      generalize (B - up + z) / B * B = Q at *
      generalize (B - up + z) % B = M at *
      have e2 : (M + up) % B = M + up - B := by
        rw [Nat.mod_eq_sub_mod (by omega), Nat.mod_eq_of_lt (by omega)]
      rw [e2]; omega
  · rintro ⟨y, hy, rfl⟩
    have e := Nat.div_add_mod' y B
    have hm := Nat.mod_lt y (show B > 0 by omega)
    have hsy := hst y hy
    unfold stepF
    by_cases hc : y % B < B - up
    · have e2 : (y % B + up) % B = y % B + up := Nat.mod_eq_of_lt (by omega)
      rw [e2]
      have e3 : y / B * B + (y % B + up) - up = y := by
        generalize y / B * B = Q at *; omega
      have e4 : y / B * B + (y % B + up) ≥ up := by
        generalize y / B * B = Q at *; omega
      rw [e3, hy, hsy]
      simp [hc, e4]
    · have e2 : (y % B + up) % B = y % B + up - B := by
        rw [Nat.mod_eq_sub_mod (by omega), Nat.mod_eq_of_lt (by omega)]
      rw [e2]
      have e3 : B - up + (y / B * B + (y % B + up - B)) = y := by
        generalize y / B * B = Q at *; omega
      rw [e3, hy, hsy]
      simp [hc]
theorem stepS_lt {n B up s : Nat} (hn : n ≤ 24) (hB : 1 ≤ B) (hd : n % B = 0) (hn0 : 1 ≤ n) (hup : up < B) (hs : s < 2 ^ n) : stepS n B up s < 2 ^ n := by
  apply Nat.lt_pow_two_of_testBit
  intro i hi
  cases h : (stepS n B up s).testBit i with
  | false => rfl
  | true =>
    obtain ⟨y, hy, e⟩ := (stepS_bit hn hB hd hn0 hup hs i).1 h
    have := stepF_lt (up := up) hB hd (bit_of_lt hs hy)
    omega
def triC : Bool := (List.range 25).all fun p => (List.range 25).all fun q => (p == 0 || (q == 0 || decide (24 < p * q))) || (List.range 25).all fun r => (r == 0 || decide (24 < p * q * r)) || (List.range (p * q * r)).all fun y => (List.range (p * q * r)).all fun x =>
  stepF (p * q * r) (p * q * (x / p / q % r)) (stepF (p * q) (p * (x / p % q)) (stepF p (x % p) y)) == (y % p + x % p) % p + p * ((y / p % q + x / p % q) % q) + p * q * ((y / p / q % r + x / p / q % r) % r)
theorem triC_ok : triC = true := by decide +kernel
theorem step_tri (p : Nat) (hp : p < 25) (p1 : 1 ≤ p) (q : Nat) (hq : q < 25) (q1 : 1 ≤ q) (hpq : p * q ≤ 24) (r : Nat) (hr : r < 25) (r1 : 1 ≤ r) (hpqr : p * q * r ≤ 24) (y : Nat) (hy : y < p * q * r) (x : Nat) (hx : x < p * q * r) :
    stepF (p * q * r) (p * q * (x / p / q % r)) (stepF (p * q) (p * (x / p % q)) (stepF p (x % p) y)) = (y % p + x % p) % p + p * ((y / p % q + x / p % q) % q) + p * q * ((y / p / q % r + x / p / q % r) % r) := by
  have h := triC_ok
  unfold triC at h
  have a1 := List.all_eq_true.1 (List.all_eq_true.1 h p (List.mem_range.2 hp)) q (List.mem_range.2 hq)
  rw [Bool.or_eq_true] at a1
  rcases a1 with a1 | a1
  · simp only [Bool.or_eq_true, beq_iff_eq, decide_eq_true_eq] at a1; omega
  · have a2 := List.all_eq_true.1 a1 r (List.mem_range.2 hr)
    rw [Bool.or_eq_true] at a2
    rcases a2 with a2 | a2
    · simp only [Bool.or_eq_true, beq_iff_eq, decide_eq_true_eq] at a2; omega
    · exact eq_of_beq (List.all_eq_true.1 (List.all_eq_true.1 a2 y (List.mem_range.2 hy)) x (List.mem_range.2 hx))
/-- The set moved by x, place by place. -/
def shN (p q r x s : Nat) : Nat := stepS (p * q * r) (p * q * r) (p * q * (x / p / q % r)) (stepS (p * q * r) (p * q) (p * (x / p % q)) (stepS (p * q * r) p (x % p) s))
theorem shN_bit {p q r x s : Nat} (hp : 1 ≤ p) (hq : 1 ≤ q) (hr : 1 ≤ r) (h24 : p * q * r ≤ 24) (hx : x < p * q * r) (hs : s < 2 ^ (p * q * r)) :
    shN p q r x s < 2 ^ (p * q * r) ∧ ∀ z, (shN p q r x s).testBit z = true ↔ ∃ y, s.testBit y = true ∧ (y % p + x % p) % p + p * ((y / p % q + x / p % q) % q) + p * q * ((y / p / q % r + x / p / q % r) % r) = z := by
  have hpq : p * q ≤ p * q * r := Nat.le_mul_of_pos_right _ (by omega)
  have hp24 : p ≤ p * q := Nat.le_mul_of_pos_right _ (by omega)
  have hq24 : q ≤ p * q := Nat.le_mul_of_pos_left _ (by omega)
  have hr24 : r ≤ p * q * r := Nat.le_mul_of_pos_left _ (by omega)
  have d1 : p * q * r % p = 0 := by rw [Nat.mul_assoc]; exact Nat.mul_mod_right _ _
  have d2 : p * q * r % (p * q) = 0 := Nat.mul_mod_right _ _
  have d3 : p * q * r % (p * q * r) = 0 := Nat.mod_self _
  have u1 : x % p < p := Nat.mod_lt _ (by omega)
  have u2 : p * (x / p % q) < p * q := Nat.mul_lt_mul_of_pos_left (Nat.mod_lt _ (by omega)) (by omega)
  have u3 : p * q * (x / p / q % r) < p * q * r := Nat.mul_lt_mul_of_pos_left (Nat.mod_lt _ (by omega)) (by omega)
  have l1 := stepS_lt h24 hp d1 (by omega) u1 hs
  have l2 := stepS_lt h24 (by omega) d2 (by omega) u2 l1
  have l3 := stepS_lt h24 (by omega) d3 (by omega) u3 l2
  refine ⟨l3, fun z => ?_⟩
  unfold shN
  rw [stepS_bit h24 (by omega) d3 (by omega) u3 l2]
  have T := fun y hy x hx => step_tri p (by omega) hp q (by omega) hq (by omega) r (by omega) hr h24 y hy x hx
  constructor
  · rintro ⟨y2, h2, e2⟩
    obtain ⟨y1, h1, e1⟩ := (stepS_bit h24 (by omega) d2 (by omega) u2 l1 y2).1 h2
    obtain ⟨y, h, e⟩ := (stepS_bit h24 hp d1 (by omega) u1 hs y1).1 h1
    refine ⟨y, h, ?_⟩
    rw [← T y (bit_of_lt hs h) x hx, e, e1, e2]
  · rintro ⟨y, h, e⟩
    rw [← T y (bit_of_lt hs h) x hx] at e
    exact ⟨_, (stepS_bit h24 (by omega) d2 (by omega) u2 l1 _).2 ⟨_, (stepS_bit h24 hp d1 (by omega) u1 hs _).2 ⟨y, h, rfl⟩, rfl⟩, e⟩
/-- The shifted element, by its three places. -/
def shF (p q r u v t : Int) (y : Nat) : Int := ((y : Int) % p + u) % p + p * (((y : Int) / p % q + v) % q) + p * q * (((y : Int) / p / q % r + t) % r)
theorem shN_orF {p q r x s : Nat} (hp : 1 ≤ p) (hq : 1 ≤ q) (hr : 1 ≤ r) (h24 : p * q * r ≤ 24) (hx : x < p * q * r) (hs : s < 2 ^ (p * q * r)) :
    shN p q r x s = orF (shF p q r ((x : Int) % p) ((x : Int) / p % q) ((x : Int) / p / q % r)) (bitsN s) := by
  have hs24 : s < 2 ^ 24 := Nat.lt_of_lt_of_le hs (Nat.pow_le_pow_right (by decide) h24)
  apply Nat.eq_of_testBit_eq
  intro z
  apply Bool.eq_iff_iff.2
  rw [(shN_bit hp hq hr h24 hx hs).2 z, orF_bit]
  have e : ∀ y : Nat, (shF p q r ((x : Int) % p) ((x : Int) / p % q) ((x : Int) / p / q % r) y).toNat = (y % p + x % p) % p + p * ((y / p % q + x / p % q) % q) + p * q * ((y / p / q % r + x / p / q % r) % r) := fun y => by
    have : shF p q r ((x : Int) % p) ((x : Int) / p % q) ((x : Int) / p / q % r) y = (((y % p + x % p) % p + p * ((y / p % q + x / p % q) % q) + p * q * ((y / p / q % r + x / p / q % r) % r) : Nat) : Int) := by
      unfold shF; push_cast; rfl
    rw [this, Int.toNat_natCast]
  constructor
  · rintro ⟨y, hy, h⟩; exact ⟨y, (mem_bits hs24 y).2 hy, by rw [e]; exact h⟩
  · rintro ⟨y, hy, h⟩; exact ⟨y, (mem_bits hs24 y).1 hy, by rw [← e]; exact h⟩
end Go.Proofs.YtfkleihnafeoeaaGreatDoor
