/- Merged: ShMath SetIn. -/
import Derived.Test.YtaacofbmbpkeoaaGreatDoorMGAI
import Derived.Test.YtaacofbmbpkeoaaGreatDoorMGAG
import Derived.Test.YtaacofbmbpkeoaaGreatDoorMGAE
import Derived.Test.YtaacofbmbpkeoaaGreatDoorMGAH
namespace Go.Proofs.YtaacofbmbpkeoaaGreatDoor
set_option maxRecDepth 1000000
/-- One place of y moved on by up, within blocks of B. -/
def stepF (B up y : Nat) : Nat := y / B * B + (y % B + up) % B
/-- The elements below n that stay within their block of B when moved on: those below d in it. -/
def stayM (n B d : Nat) : Nat := (2 ^ d - 1) * ((2 ^ n - 1) / (2 ^ B - 1))
/-- A set with one place moved on. -/
def stepS (n B up s : Nat) : Nat := ((s &&& stayM n B (B - up)) <<< up) ||| ((s ^^^ (s &&& stayM n B (B - up))) >>> (B - up))
def stayC : Bool := (List.range 25).all fun n => (List.range 25).all fun B => (B == 0 || n % B != 0) || (List.range (B + 1)).all fun d => (List.range 24).all fun k => (stayM n B d).testBit k == (decide (k < n) && decide (k % B < d))
theorem stayC_ok : stayC = true := by decide +kernel
theorem stay_all (n : Nat) (hn : n < 25) (B : Nat) (hB : B < 25) (h1 : 1 ≤ B) (hd : n % B = 0) (d : Nat) (h2 : d ≤ B) (k : Nat) (hk : k < 24) : (stayM n B d).testBit k = (decide (k < n) && decide (k % B < d)) := by
  have h := stayC_ok
  unfold stayC at h
  have a1 := List.all_eq_true.1 (List.all_eq_true.1 h n (List.mem_range.2 hn)) B (List.mem_range.2 hB)
  rw [Bool.or_eq_true] at a1
  rcases a1 with a1 | a1
  · rw [Bool.or_eq_true] at a1
    rcases a1 with a1 | a1
    · simp at a1; omega
    · simp [hd] at a1
  · have a2 := List.all_eq_true.1 (List.all_eq_true.1 a1 d (List.mem_range.2 (by omega))) k (List.mem_range.2 hk)
    exact eq_of_beq a2
theorem stay_lt {n B d : Nat} (hn : n ≤ 24) (hd : d ≤ 24) : stayM n B d < 281474976710656 := by
  unfold stayM
  have h1 : 2 ^ d ≤ 2 ^ 24 := Nat.pow_le_pow_right (by decide) hd
  have h2 : 2 ^ n ≤ 2 ^ 24 := Nat.pow_le_pow_right (by decide) hn
  have h3 := Nat.two_pow_pos d
  have h4 := Nat.two_pow_pos n
  have h5 : (2 ^ n - 1) / (2 ^ B - 1) ≤ 2 ^ 24 - 1 := Nat.le_trans (Nat.div_le_self _ _) (by omega)
  have h6 := Nat.mul_le_mul (show 2 ^ d - 1 ≤ 2 ^ 24 - 1 by omega) h5
  exact Nat.lt_of_le_of_lt h6 (by decide)
theorem stepF_lt {n B up y : Nat} (hB : 1 ≤ B) (hd : n % B = 0) (hy : y < n) : stepF B up y < n := by
  unfold stepF
  have h1 : y / B < n / B := (Nat.div_lt_iff_lt_mul (by omega)).2 (by rw [Nat.div_mul_cancel (Nat.dvd_of_mod_eq_zero hd)]; exact hy)
  have h2 := Nat.mod_lt (y % B + up) (show B > 0 by omega)
  have h3 : (y / B + 1) * B ≤ n / B * B := Nat.mul_le_mul_right B h1
  rw [Nat.div_mul_cancel (Nat.dvd_of_mod_eq_zero hd), Nat.add_mul] at h3
  generalize y / B * B = Q at *
  omega
theorem bit_of_lt {s n k : Nat} (hs : s < 2 ^ n) (h : s.testBit k = true) : k < n := by
  rcases Nat.lt_or_ge k n with h1 | h1
  · exact h1
  · rw [bit_no hs k h1] at h; cases h
theorem stepS_bit {n B up s : Nat} (hn : n ≤ 24) (hB : 1 ≤ B) (hd : n % B = 0) (hn0 : 1 ≤ n) (hup : up < B) (hs : s < 2 ^ n) (z : Nat) :
    (stepS n B up s).testBit z = true ↔ ∃ y, s.testBit y = true ∧ stepF B up y = z := by
  have hBn : B ≤ n := Nat.le_of_dvd hn0 (Nat.dvd_of_mod_eq_zero hd)
  have hst : ∀ k, s.testBit k = true → (stayM n B (B - up)).testBit k = decide (k % B < B - up) := fun k hk => by
    have hkn := bit_of_lt hs hk
    rw [stay_all n (by omega) B (by omega) hB hd (B - up) (by omega) k (by omega)]
    simp [hkn]
  unfold stepS
  rw [Nat.testBit_or, Nat.testBit_shiftLeft, Nat.testBit_shiftRight, Nat.testBit_and, Nat.testBit_xor, Nat.testBit_and]
  constructor
  · intro h
    rw [Bool.or_eq_true] at h
    rcases h with h | h
    · simp only [Bool.and_eq_true, decide_eq_true_eq] at h
      obtain ⟨h1, h2, h3⟩ := h
      rw [hst _ h2, decide_eq_true_eq] at h3
      refine ⟨z - up, h2, ?_⟩
      unfold stepF
      have e := Nat.div_add_mod' (z - up) B
      rw [Nat.mod_eq_of_lt (by omega)]
      generalize (z - up) / B * B = Q at *
      omega
    · have h2 : s.testBit (B - up + z) = true := by
        cases hc : s.testBit (B - up + z) with
        | true => rfl
        | false => rw [hc] at h; simp at h
      rw [hst _ h2, h2] at h
      have h3 : ¬ (B - up + z) % B < B - up := by simpa using h
      refine ⟨B - up + z, h2, ?_⟩
      unfold stepF
      have e := Nat.div_add_mod' (B - up + z) B
      have hm := Nat.mod_lt (B - up + z) (show B > 0 by omega)
      generalize (B - up + z) / B * B = Q at *
      generalize (B - up + z) % B = M at *
      have e2 : (M + up) % B = M + up - B := by
        rw [Nat.mod_eq_sub_mod (by omega), Nat.mod_eq_of_lt (by omega)]
      rw [e2]; omega
  · rintro ⟨y, hy, rfl⟩
    have e := Nat.div_add_mod' y B
    have hm := Nat.mod_lt y (show B > 0 by omega)
    have hsy := hst y hy
    unfold stepF
    by_cases hc : y % B < B - up
    · have e2 : (y % B + up) % B = y % B + up := Nat.mod_eq_of_lt (by omega)
      rw [e2]
      have e3 : y / B * B + (y % B + up) - up = y := by
        generalize y / B * B = Q at *; omega
      have e4 : y / B * B + (y % B + up) ≥ up := by
        generalize y / B * B = Q at *; omega
      rw [e3, hy, hsy]
      simp [hc, e4]
    · have e2 : (y % B + up) % B = y % B + up - B := by
        rw [Nat.mod_eq_sub_mod (by omega), Nat.mod_eq_of_lt (by omega)]
      rw [e2]
      have e3 : B - up + (y / B * B + (y % B + up - B)) = y := by
        generalize y / B * B = Q at *; omega
      rw [e3, hy, hsy]
      simp [hc]
theorem stepS_lt {n B up s : Nat} (hn : n ≤ 24) (hB : 1 ≤ B) (hd : n % B = 0) (hn0 : 1 ≤ n) (hup : up < B) (hs : s < 2 ^ n) : stepS n B up s < 2 ^ n := by
  apply Nat.lt_pow_two_of_testBit
  intro i hi
  cases h : (stepS n B up s).testBit i with
  | false => rfl
  | true =>
    obtain ⟨y, hy, e⟩ := (stepS_bit hn hB hd hn0 hup hs i).1 h
    have := stepF_lt (up := up) hB hd (bit_of_lt hs hy)
    omega
def triC : Bool := (List.range 25).all fun p => (List.range 25).all fun q => (p == 0 || (q == 0 || decide (24 < p * q))) || (List.range 25).all fun r => (r == 0 || decide (24 < p * q * r)) || (List.range (p * q * r)).all fun y => (List.range (p * q * r)).all fun x =>
  stepF (p * q * r) (p * q * (x / p / q % r)) (stepF (p * q) (p * (x / p % q)) (stepF p (x % p) y)) == (y % p + x % p) % p + p * ((y / p % q + x / p % q) % q) + p * q * ((y / p / q % r + x / p / q % r) % r)
theorem triC_ok : triC = true := by decide +kernel
theorem step_tri (p : Nat) (hp : p < 25) (p1 : 1 ≤ p) (q : Nat) (hq : q < 25) (q1 : 1 ≤ q) (hpq : p * q ≤ 24) (r : Nat) (hr : r < 25) (r1 : 1 ≤ r) (hpqr : p * q * r ≤ 24) (y : Nat) (hy : y < p * q * r) (x : Nat) (hx : x < p * q * r) :
    stepF (p * q * r) (p * q * (x / p / q % r)) (stepF (p * q) (p * (x / p % q)) (stepF p (x % p) y)) = (y % p + x % p) % p + p * ((y / p % q + x / p % q) % q) + p * q * ((y / p / q % r + x / p / q % r) % r) := by
  have h := triC_ok
  unfold triC at h
  have a1 := List.all_eq_true.1 (List.all_eq_true.1 h p (List.mem_range.2 hp)) q (List.mem_range.2 hq)
  rw [Bool.or_eq_true] at a1
  rcases a1 with a1 | a1
  · simp only [Bool.or_eq_true, beq_iff_eq, decide_eq_true_eq] at a1; omega
  · have a2 := List.all_eq_true.1 a1 r (List.mem_range.2 hr)
    rw [Bool.or_eq_true] at a2
    rcases a2 with a2 | a2
    · simp only [Bool.or_eq_true, beq_iff_eq, decide_eq_true_eq] at a2; omega
    · exact eq_of_beq (List.all_eq_true.1 (List.all_eq_true.1 a2 y (List.mem_range.2 hy)) x (List.mem_range.2 hx))
/-- The set moved by x, place by place. -/
def shN (p q r x s : Nat) : Nat := stepS (p * q * r) (p * q * r) (p * q * (x / p / q % r)) (stepS (p * q * r) (p * q) (p * (x / p % q)) (stepS (p * q * r) p (x % p) s))
theorem shN_bit {p q r x s : Nat} (hp : 1 ≤ p) (hq : 1 ≤ q) (hr : 1 ≤ r) (h24 : p * q * r ≤ 24) (hx : x < p * q * r) (hs : s < 2 ^ (p * q * r)) :
    shN p q r x s < 2 ^ (p * q * r) ∧ ∀ z, (shN p q r x s).testBit z = true ↔ ∃ y, s.testBit y = true ∧ (y % p + x % p) % p + p * ((y / p % q + x / p % q) % q) + p * q * ((y / p / q % r + x / p / q % r) % r) = z := by
  have hpq : p * q ≤ p * q * r := Nat.le_mul_of_pos_right _ (by omega)
  have hp24 : p ≤ p * q := Nat.le_mul_of_pos_right _ (by omega)
  have hq24 : q ≤ p * q := Nat.le_mul_of_pos_left _ (by omega)
  have hr24 : r ≤ p * q * r := Nat.le_mul_of_pos_left _ (by omega)
  have d1 : p * q * r % p = 0 := by rw [Nat.mul_assoc]; exact Nat.mul_mod_right _ _
  have d2 : p * q * r % (p * q) = 0 := Nat.mul_mod_right _ _
  have d3 : p * q * r % (p * q * r) = 0 := Nat.mod_self _
  have u1 : x % p < p := Nat.mod_lt _ (by omega)
  have u2 : p * (x / p % q) < p * q := Nat.mul_lt_mul_of_pos_left (Nat.mod_lt _ (by omega)) (by omega)
  have u3 : p * q * (x / p / q % r) < p * q * r := Nat.mul_lt_mul_of_pos_left (Nat.mod_lt _ (by omega)) (by omega)
  have l1 := stepS_lt h24 hp d1 (by omega) u1 hs
  have l2 := stepS_lt h24 (by omega) d2 (by omega) u2 l1
  have l3 := stepS_lt h24 (by omega) d3 (by omega) u3 l2
  refine ⟨l3, fun z => ?_⟩
  unfold shN
  rw [stepS_bit h24 (by omega) d3 (by omega) u3 l2]
  have T := fun y hy x hx => step_tri p (by omega) hp q (by omega) hq (by omega) r (by omega) hr h24 y hy x hx
  constructor
  · rintro ⟨y2, h2, e2⟩
    obtain ⟨y1, h1, e1⟩ := (stepS_bit h24 (by omega) d2 (by omega) u2 l1 y2).1 h2
    obtain ⟨y, h, e⟩ := (stepS_bit h24 hp d1 (by omega) u1 hs y1).1 h1
    refine ⟨y, h, ?_⟩
    rw [← T y (bit_of_lt hs h) x hx, e, e1, e2]
  · rintro ⟨y, h, e⟩
    rw [← T y (bit_of_lt hs h) x hx] at e
    exact ⟨_, (stepS_bit h24 (by omega) d2 (by omega) u2 l1 _).2 ⟨_, (stepS_bit h24 hp d1 (by omega) u1 hs _).2 ⟨y, h, rfl⟩, rfl⟩, e⟩
/-- The shifted element, by its three places. -/
def shF (p q r u v t : Int) (y : Nat) : Int := ((y : Int) % p + u) % p + p * (((y : Int) / p % q + v) % q) + p * q * (((y : Int) / p / q % r + t) % r)
theorem shN_orF {p q r x s : Nat} (hp : 1 ≤ p) (hq : 1 ≤ q) (hr : 1 ≤ r) (h24 : p * q * r ≤ 24) (hx : x < p * q * r) (hs : s < 2 ^ (p * q * r)) :
    shN p q r x s = orF (shF p q r ((x : Int) % p) ((x : Int) / p % q) ((x : Int) / p / q % r)) (bitsN s) := by
  have hs24 : s < 2 ^ 24 := Nat.lt_of_lt_of_le hs (Nat.pow_le_pow_right (by decide) h24)
  apply Nat.eq_of_testBit_eq
  intro z
  apply Bool.eq_iff_iff.2
  rw [(shN_bit hp hq hr h24 hx hs).2 z, orF_bit]
  have e : ∀ y : Nat, (shF p q r ((x : Int) % p) ((x : Int) / p % q) ((x : Int) / p / q % r) y).toNat = (y % p + x % p) % p + p * ((y / p % q + x / p % q) % q) + p * q * ((y / p / q % r + x / p / q % r) % r) := fun y => by
    have : shF p q r ((x : Int) % p) ((x : Int) / p % q) ((x : Int) / p / q % r) y = (((y % p + x % p) % p + p * ((y / p % q + x / p % q) % q) + p * q * ((y / p / q % r + x / p / q % r) % r) : Nat) : Int) := by
      unfold shF; push_cast; rfl
    rw [this, Int.toNat_natCast]
  constructor
  · rintro ⟨y, hy, h⟩; exact ⟨y, (mem_bits hs24 y).2 hy, by rw [e]; exact h⟩
  · rintro ⟨y, hy, h⟩; exact ⟨y, (mem_bits hs24 y).1 hy, by rw [← e]; exact h⟩
end Go.Proofs.YtaacofbmbpkeoaaGreatDoor

namespace Go.Proofs.YtaacofbmbpkeoaaGreatDoor
open Go.RowKit
set_option maxRecDepth 1000000
theorem below_set3a {B b : Nat} {w0 w : World} {x y z : Value} (h : Below B w0 w) (hb : B ≤ b) : Below B w0 (((w.setCell ⟨b, 0, none⟩ x).setCell ⟨b, 1, none⟩ y).setCell ⟨b, 2, none⟩ z) := below_set3 h hb
theorem iSetIn_no (w : World) (a : Option Addr) (l : List Int) (n cap : Nat) (s : Int) (hn : n = l.length) (hm : n ≤ 9223372036854775807) (hi : Ints w a l) (hs : isS l s = false) :
    Calls Tryz.prog 54 #[.agg #[.slice a n cap], .int .i64 s] w fun e w' => e = .returned (.tuple #[tV 0 0 0, .int .u64 0, .bool false]) ∧ Below w.heap.size w w' := by
  have HI := Lib.hid (ints_alloc (ints_alloc hi (.cells #[.slice a n cap] 26)) (.cells #[.int .i64 0, .int .i64 0, .int .i64 0] 41))
  have HN := Lib.hid hn
  have C1 := keepC (Joins.below_alloc1 _ (.cells #[.int .i64 0, .int .i64 0, .int .i64 0] 41)) (by simp <;> omega) (newC w (.slice a n cap) 26 (n := w.heap.size) rfl)
  have HB := Lib.hid (Joins.below_alloc2 w (.cells #[.slice a n cap] 26) (.cells #[.int .i64 0, .int .i64 0, .int .i64 0] 41))
  have R1 : Hid (((w.alloc (.cells #[.slice a n cap] 26)).alloc (.cells #[.int .i64 0, .int .i64 0, .int .i64 0] 41)).heap[w.heap.size + 1]? = some (.cells #[.int .i64 0, .int .i64 0, .int .i64 0] 41 (0, 0))) := Lib.hid (by simpa using heap_alloc_new (w.alloc (.cells #[.slice a n cap] 26)) (.cells #[.int .i64 0, .int .i64 0, .int .i64 0] 41))
  have T0 := Lib.hid (Below.refl ((w.alloc (.cells #[.slice a n cap] 26)).alloc (.cells #[.int .i64 0, .int .i64 0, .int .i64 0] 41)).heap.size ((w.alloc (.cells #[.slice a n cap] 26)).alloc (.cells #[.int .i64 0, .int .i64 0, .int .i64 0] 41)))
  clear hi hn
  cases hg : grpB l with
  | false =>
    have HG := Lib.hid hg
    clear hg hs
    go_enter Tryz.func54, Tryz.ntmps54
    go_wp2_with (first | (go_at_call 82; refine (iOrders _ _ _ _ _ HN.out hm HI.out).mono ?_; unfold OrdersPost; rw [HG.out]; rintro e w1 ⟨p, q, r, rfl, _, hb1⟩; have T1 := Lib.hid (T0.out.trans (hb1.mono T0.out.size)); have TA := Lib.hid (T1.out.alloc T1.out.size (.cells #[.int .i64 p, .int .i64 q, .int .i64 r] 41)); have c1 := keepC T1.out (by simp <;> omega) C1; obtain ⟨x10, x11, x12, x1f0, x1f1, x1f2⟩ := trip_cell (keepH T1.out (by simp <;> omega) R1.out); have c2 := keepC TA.out (by simp <;> omega) C1; obtain ⟨x20, x21, x22, x2f0, x2f1, x2f2⟩ := trip_cell (keepH TA.out (by simp <;> omega) R1.out)))
    refine bodyPost_ret (v := .tuple #[tV 0 0 0, .int .u64 0, .bool false]) (by simp [results, Tryz.results54, go_sem, x20, x21, x22]) rfl ⟨rfl, below_set3 (HB.out.trans (TA.out.mono (by simp <;> omega))) (by omega)⟩
  | true =>
    have HG := Lib.hid hg
    have HT := Lib.hid (tri_grp hg)
    have HP := prod_pad (grpB_true hg).1
    have HS := fullN_nat l
    rw [HP] at HS
    have hFb := full_bnd hg
    obtain ⟨p, EP⟩ : ∃ p, Hid (l.getD 0 1 = p) := ⟨_, Lib.hid rfl⟩
    obtain ⟨q, EQ⟩ : ∃ q, Hid (l.getD 1 1 = q) := ⟨_, Lib.hid rfl⟩
    obtain ⟨r, ER⟩ : ∃ r, Hid (l.getD 2 1 = r) := ⟨_, Lib.hid rfl⟩
    rw [EP.out, EQ.out, ER.out] at HT HS
    obtain ⟨N, EN⟩ : ∃ N, fullN l = N := ⟨_, rfl⟩
    rw [EN] at HS hFb
    have HFN := Lib.hid HS
    obtain ⟨f1, f2⟩ := hFb
    have hor : s < 0 ∨ (0 ≤ s ∧ N < s) := by
      simp only [isS, hg, EN, Bool.true_and, Bool.and_eq_false_iff, decide_eq_false_iff_not] at hs
      omega
    clear hg hs HP HS EN
    rcases hor with h | ⟨h, h2⟩
    · go_enter Tryz.func54, Tryz.ntmps54
      go_wp2_with (first
        | (go_at_call 82; refine (iOrders _ _ _ _ _ HN.out hm HI.out).mono ?_; unfold OrdersPost; rw [HG.out]; rintro e w1 ⟨p', q', r', rfl, hpqr, hb1⟩; obtain ⟨e1, e2, e3⟩ := hpqr rfl; clear hpqr; rw [EP.out] at e1; rw [EQ.out] at e2; rw [ER.out] at e3; subst e1 e2 e3; have T1 := Lib.hid (T0.out.trans (hb1.mono T0.out.size)); have TA := Lib.hid (T1.out.alloc T1.out.size (.cells #[.int .i64 p', .int .i64 q', .int .i64 r'] 41)); have c1 := keepC T1.out (by simp <;> omega) C1; obtain ⟨x10, x11, x12, x1f0, x1f1, x1f2⟩ := trip_cell (keepH T1.out (by simp <;> omega) R1.out); have c2 := keepC TA.out (by simp <;> omega) C1; obtain ⟨x20, x21, x22, x2f0, x2f1, x2f2⟩ := trip_cell (keepH TA.out (by simp <;> omega) R1.out); have R7 := Lib.hid (heap_alloc_new w1 (.cells #[.int .i64 p', .int .i64 q', .int .i64 r'] 41))))
      refine bodyPost_ret (v := .tuple #[tV 0 0 0, .int .u64 0, .bool false]) (by simp [results, Tryz.results54, go_sem, x20, x21, x22]) rfl ⟨rfl, below_set3 (HB.out.trans (TA.out.mono (by simp <;> omega))) (by omega)⟩
    · go_enter Tryz.func54, Tryz.ntmps54
      go_wp2_with (first
        | (go_at_call 83; refine (iFull _ _ _ _ _ HT.out HFN.out).mono ?_; rintro e w2 ⟨rfl, hb2⟩; have T2 := Lib.hid (TA.out.trans (hb2.mono TA.out.size)); have c3 := keepC T2.out (by simp <;> omega) C1; obtain ⟨x30, x31, x32, x3f0, x3f1, x3f2⟩ := trip_cell (keepH T2.out (by simp <;> omega) R1.out); obtain ⟨z30, z31, z32, z3f0, z3f1, z3f2⟩ := trip_cell (keepH hb2 (by simp <;> omega) R7.out))
        | (go_at_call 82; refine (iOrders _ _ _ _ _ HN.out hm HI.out).mono ?_; unfold OrdersPost; rw [HG.out]; rintro e w1 ⟨p', q', r', rfl, hpqr, hb1⟩; obtain ⟨e1, e2, e3⟩ := hpqr rfl; clear hpqr; rw [EP.out] at e1; rw [EQ.out] at e2; rw [ER.out] at e3; subst e1 e2 e3; have T1 := Lib.hid (T0.out.trans (hb1.mono T0.out.size)); have TA := Lib.hid (T1.out.alloc T1.out.size (.cells #[.int .i64 p', .int .i64 q', .int .i64 r'] 41)); have c1 := keepC T1.out (by simp <;> omega) C1; obtain ⟨x10, x11, x12, x1f0, x1f1, x1f2⟩ := trip_cell (keepH T1.out (by simp <;> omega) R1.out); have c2 := keepC TA.out (by simp <;> omega) C1; obtain ⟨x20, x21, x22, x2f0, x2f1, x2f2⟩ := trip_cell (keepH TA.out (by simp <;> omega) R1.out); have R7 := Lib.hid (heap_alloc_new w1 (.cells #[.int .i64 p', .int .i64 q', .int .i64 r'] 41))))
      refine bodyPost_ret (v := .tuple #[tV 0 0 0, .int .u64 0, .bool false]) (by simp [results, Tryz.results54, go_sem, x30, x31, x32]) rfl ⟨rfl, below_set3 (HB.out.trans (T2.out.mono (by simp <;> omega))) (by omega)⟩
theorem iSetIn_yes (w : World) (a : Option Addr) (l : List Int) (n cap : Nat) (s : Int) (hn : n = l.length) (hm : n ≤ 9223372036854775807) (hi : Ints w a l) (hs : isS l s = true) :
    Calls Tryz.prog 54 #[.agg #[.slice a n cap], .int .i64 s] w fun e w' => e = .returned (.tuple #[tV (l.getD 0 1) (l.getD 1 1) (l.getD 2 1), .int .u64 s, .bool true]) ∧ Below w.heap.size w w' := by
  have HI := Lib.hid (ints_alloc (ints_alloc hi (.cells #[.slice a n cap] 26)) (.cells #[.int .i64 0, .int .i64 0, .int .i64 0] 41))
  have HN := Lib.hid hn
  have C1 := keepC (Joins.below_alloc1 _ (.cells #[.int .i64 0, .int .i64 0, .int .i64 0] 41)) (by simp <;> omega) (newC w (.slice a n cap) 26 (n := w.heap.size) rfl)
  have HB := Lib.hid (Joins.below_alloc2 w (.cells #[.slice a n cap] 26) (.cells #[.int .i64 0, .int .i64 0, .int .i64 0] 41))
  have R1 : Hid (((w.alloc (.cells #[.slice a n cap] 26)).alloc (.cells #[.int .i64 0, .int .i64 0, .int .i64 0] 41)).heap[w.heap.size + 1]? = some (.cells #[.int .i64 0, .int .i64 0, .int .i64 0] 41 (0, 0))) := Lib.hid (by simpa using heap_alloc_new (w.alloc (.cells #[.slice a n cap] 26)) (.cells #[.int .i64 0, .int .i64 0, .int .i64 0] 41))
  have T0 := Lib.hid (Below.refl ((w.alloc (.cells #[.slice a n cap] 26)).alloc (.cells #[.int .i64 0, .int .i64 0, .int .i64 0] 41)).heap.size ((w.alloc (.cells #[.slice a n cap] 26)).alloc (.cells #[.int .i64 0, .int .i64 0, .int .i64 0] 41)))
  clear hi hn
  have hg := (isS_true hs).1
  have HG := Lib.hid hg
  have HT := Lib.hid (tri_grp hg)
  have HP := prod_pad (grpB_true hg).1
  have HS := fullN_nat l
  rw [HP] at HS
  have hFb := full_bnd hg
  obtain ⟨p, EP⟩ : ∃ p, Hid (l.getD 0 1 = p) := ⟨_, Lib.hid rfl⟩
  obtain ⟨q, EQ⟩ : ∃ q, Hid (l.getD 1 1 = q) := ⟨_, Lib.hid rfl⟩
  obtain ⟨r, ER⟩ : ∃ r, Hid (l.getD 2 1 = r) := ⟨_, Lib.hid rfl⟩
  rw [EP.out, EQ.out, ER.out] at HT HS
  obtain ⟨N, EN⟩ : ∃ N, fullN l = N := ⟨_, rfl⟩
  rw [EN] at HS hFb
  have HFN := Lib.hid HS
  obtain ⟨f1, f2⟩ := hFb
  have hor : 0 ≤ s ∧ s ≤ N := by
    simp only [isS, hg, EN, Bool.true_and, Bool.and_eq_true, decide_eq_true_eq] at hs
    exact hs
  obtain ⟨h1, h2⟩ := hor
  rw [EP.out, EQ.out, ER.out]
  clear hg hs HP HS EN
  go_enter Tryz.func54, Tryz.ntmps54
  go_wp2_with (first
    | (go_at_call 83; refine (iFull _ _ _ _ _ HT.out HFN.out).mono ?_; rintro e w2 ⟨rfl, hb2⟩; have T2 := Lib.hid (TA.out.trans (hb2.mono TA.out.size)); have c3 := keepC T2.out (by simp <;> omega) C1; obtain ⟨x30, x31, x32, x3f0, x3f1, x3f2⟩ := trip_cell (keepH T2.out (by simp <;> omega) R1.out); obtain ⟨z30, z31, z32, z3f0, z3f1, z3f2⟩ := trip_cell (keepH hb2 (by simp <;> omega) R7.out))
    | (go_at_call 82; refine (iOrders _ _ _ _ _ HN.out hm HI.out).mono ?_; unfold OrdersPost; rw [HG.out]; rintro e w1 ⟨p', q', r', rfl, hpqr, hb1⟩; obtain ⟨e1, e2, e3⟩ := hpqr rfl; clear hpqr; rw [EP.out] at e1; rw [EQ.out] at e2; rw [ER.out] at e3; subst e1 e2 e3; have T1 := Lib.hid (T0.out.trans (hb1.mono T0.out.size)); have TA := Lib.hid (T1.out.alloc T1.out.size (.cells #[.int .i64 p', .int .i64 q', .int .i64 r'] 41)); have c1 := keepC T1.out (by simp <;> omega) C1; obtain ⟨x10, x11, x12, x1f0, x1f1, x1f2⟩ := trip_cell (keepH T1.out (by simp <;> omega) R1.out); have c2 := keepC TA.out (by simp <;> omega) C1; obtain ⟨x20, x21, x22, x2f0, x2f1, x2f2⟩ := trip_cell (keepH TA.out (by simp <;> omega) R1.out); have R7 := Lib.hid (heap_alloc_new w1 (.cells #[.int .i64 p', .int .i64 q', .int .i64 r'] 41))))
  refine bodyPost_ret (v := .tuple #[tV p' q' r', .int .u64 s, .bool true]) (by simp [results, Tryz.results54, go_sem, x30, x31, x32]) rfl ⟨rfl, below_set3 (HB.out.trans (T2.out.mono (by simp <;> omega))) (by omega)⟩
/-- What setIn answers. -/
def SetInPost (l : List Int) (s : Int) (w : World) (e : Ending) (w' : World) : Prop :=
  ∃ p q r v, e = .returned (.tuple #[tV p q r, .int .u64 v, .bool (isS l s)]) ∧ (isS l s = true → p = l.getD 0 1 ∧ q = l.getD 1 1 ∧ r = l.getD 2 1 ∧ v = s) ∧ Below w.heap.size w w'
theorem iSetIn (w : World) (a : Option Addr) (l : List Int) (n cap : Nat) (s : Int) (hn : n = l.length) (hm : n ≤ 9223372036854775807) (hi : Ints w a l) :
    Calls Tryz.prog 54 #[.agg #[.slice a n cap], .int .i64 s] w (SetInPost l s w) := by
  unfold SetInPost
  cases hs : isS l s with
  | false => exact (iSetIn_no w a l n cap s hn hm hi hs).mono fun e w' ⟨he, hb⟩ => ⟨0, 0, 0, 0, he, (fun h => by cases h), hb⟩
  | true => exact (iSetIn_yes w a l n cap s hn hm hi hs).mono fun e w' ⟨he, hb⟩ => ⟨_, _, _, _, he, fun _ => ⟨rfl, rfl, rfl, rfl⟩, hb⟩
/-- The number of the full set; 0 of what is no group. -/
def fullE (l : List Int) : Int := if grpB l = true then fullN l else 0
theorem iCount (w : World) (a : Option Addr) (l : List Int) (n cap : Nat) (s : Int) (hn : n = l.length) (hm : n ≤ 9223372036854775807) (hi : Ints w a l) :
    Calls Tryz.prog 55 #[.agg #[.slice a n cap], .int .i64 s] w fun e w' => e = .returned (.int .i64 (cntE l s)) ∧ Below w.heap.size w w' := by
  have HI := Lib.hid (ints_alloc hi (.cells #[.slice a n cap] 26))
  have HN := Lib.hid hn
  have C1 := newC w (.slice a n cap) 26 (n := w.heap.size) rfl
  have HB := Lib.hid (Joins.below_alloc1 w (.cells #[.slice a n cap] 26))
  have T0 := Lib.hid (Below.refl (w.alloc (.cells #[.slice a n cap] 26)).heap.size (w.alloc (.cells #[.slice a n cap] 26)))
  clear hi hn
  cases hs : isS l s with
  | false =>
    have HS := Lib.hid hs
    rw [show cntE l s = -1 by unfold cntE; rw [hs]; rfl]
    clear hs
    go_enter Tryz.func55, Tryz.ntmps55
    go_wp2_with (go_at_call 54; refine (iSetIn _ _ _ _ _ _ HN.out hm HI.out).mono ?_; unfold SetInPost; rw [HS.out]; rintro e w1 ⟨p, q, r, v, rfl, hv, hb1⟩; clear hv)
    go_ret
    exact ⟨rfl, HB.out.trans (by first | exact hb1.mono (by simp) | exact Below.alloc (hb1.mono (by simp)) (Nat.le_trans (by simp) hb1.size) _)⟩
  | true =>
    have HS := Lib.hid hs
    obtain ⟨hg, m, rfl, _, hm24⟩ := isS_true hs
    rw [show cntE l m = ((bitsN m).length : Nat) by unfold cntE; rw [hs]; rfl]
    have HM := Lib.hid hm24
    clear hs hg hm24
    go_enter Tryz.func55, Tryz.ntmps55
    go_wp2_with (first
      | (go_at_call 47; refine (iCnt _ m HM.out).mono ?_; rintro e w2 ⟨rfl, rfl⟩)
      | (go_at_call 54; refine (iSetIn _ _ _ _ _ _ HN.out hm HI.out).mono ?_; unfold SetInPost; rw [HS.out]; rintro e w1 ⟨p, q, r, v, rfl, hv, hb1⟩; obtain ⟨_, _, _, rfl⟩ := hv rfl))
    go_ret
    exact ⟨rfl, HB.out.trans (by first | exact hb1.mono (by simp) | exact Below.alloc (hb1.mono (by simp)) (Nat.le_trans (by simp) hb1.size) _)⟩
end Go.Proofs.YtaacofbmbpkeoaaGreatDoor
