/- Merged: Round GrpMul Shift ShMath ShiftN. -/
import Derived.Test.YtiponiflebmooaaEachL
import Derived.Deep.RegionHeld3
import Derived.Test.YtiponiflebmooaaGrpFun
import Derived.Test.YtiponiflebmooaaAXA
import Derived.Test.YtiponiflebmooaaSetBits
import Derived.Test.YtiponiflebmooaaSetIn
import Derived.Deep.DeepCutAuto
namespace Go.Proofs.Ytiponiflebmooaa
open Go.RowKit Go.Shelf
section
variable {P : Program} {Q : Exit → Act → World → Prop} {l n : Nat}
theorem oper_round {o : Oper} {a : Act} {w : World} {K K' : Act → World → Prop} (hd : ∀ c, o.op ≠ .defer c) (h : o.wp P a w K Q) (hK : ∀ a w, K a w → K' a w) :
    o.wpIn (Fence.wide.inRound l) n P a w K' Q := by
  unfold Oper.wp at h
  unfold Oper.wpIn
  refine ⟨fun _ _ => trivial, ?_⟩
  rw [Oper.semAt_eq _ _ _ hd]
  generalize (execOp a.eval o).run P w = r at h
  have hno : (Fence.wide.inRound l).depth.isSome = true → 1 ≤ n := fun e => by simp [Fence.wide] at e
  cases r with
  | ok x w' =>
    cases x with
    | value v => exact hK _ _ h
    | skip => exact hK _ _ h
    | defer d => exact hK _ _ h
    | enter f args =>
      refine ⟨hno, CallsIn.inRound l (callsIn_wide.2 (Calls.mono h ?_))⟩
      intro e w'' he
      cases e with
      | returned v => exact hK _ _ he
      | panicked c => exact he
      | outgrown => exact he
    | row row args =>
      refine ⟨hno, fun c cs _ => ?_⟩
      obtain ⟨v, w'', r, s⟩ := h c cs
      exact ⟨v, w'', hK _ _ r, stepsIn_wide.2 s⟩
    | _ => exact (h : False).elim
  | halt x w' =>
    cases x with
    | panic v => exact h
    | _ => exact (h : False).elim
theorem any_round {md : Region.Mode} {ops : Array Oper} (hd : ∀ (i : Nat) (o : Oper), ops[i]? = some o → ∀ c, o.op ≠ .defer c) (hQ : ¬ LetsOut Q) :
    ∀ (fuel : Nat) (listed : Array Bool) (a : Act) (w : World), wpAny P md ops Q fuel listed a w → wpAnyIn (Fence.wide.inRound l) n P md ops Q fuel listed a w
  | 0, _, _, _, h => h
  | fuel + 1, listed, a, w, h => ⟨h.1, fun i hi => by
    have h2 := h.2 i hi
    unfold wpOp at h2
    unfold wpOpIn
    cases ho : ops[i]? with
    | none => rw [ho] at h2; exact any_round hd hQ fuel _ _ _ h2
    | some o =>
      rw [ho] at h2
      simp only at h2 ⊢
      split
      · next hw =>
        rw [if_pos hw] at h2
        rcases h2 with h3 | h3
        · exact oper_round (hd i o ho) h3 (fun a w h4 => any_round hd hQ fuel _ _ _ h4)
        · exact absurd h3.2 hQ
      · next hw =>
        rw [if_neg hw] at h2
        exact ⟨fun _ _ => trivial, any_round hd hQ fuel _ _ _ h2⟩⟩
theorem region_round {id : Nat} {ops : Array Oper} {S : World → Prop} {a : Act} {w : World} (hm : P.follows .mixedOrders = true) (hd : ∀ (i : Nat) (o : Oper), ops[i]? = some o → ∀ c, o.op ≠ .defer c) (hQ : ¬ LetsOut Q) (hS : S w.drew)
    (h : S w.drew → wpAnyH P .any ops Q S ops.size (Array.replicate ops.size false) a w.drew) : (Code.region id ops true).wpIn (Fence.wide.inRound l) n P Q a w :=
  wpIn_region_any hm (any_round hd hQ _ _ _ _ (wpAny_of_held _ _ _ _ (h hS)))
end
end Go.Proofs.Ytiponiflebmooaa

namespace Go.Proofs.Ytiponiflebmooaa
open Go.RowKit
set_option maxRecDepth 1000000
theorem prod_bnd {t c k : Int} (h0 : 0 ≤ t) (h1 : t < c) (hc : c ≤ 24) (k1 : -100 ≤ k) (k2 : k ≤ 100) : -2300 ≤ t * k ∧ t * k ≤ 2300 := by
  have a1 : t * k ≤ t * 100 := Int.mul_le_mul_of_nonneg_left k2 h0
  have a2 : t * -100 ≤ t * k := Int.mul_le_mul_of_nonneg_left k1 h0
  omega
theorem tmod_bnd (a : Int) {c : Int} (h : 1 ≤ c) : -c < a.tmod c ∧ a.tmod c < c := by
  have := Int.tmod_lt_of_pos a (show 0 < c by omega)
  have h2 := Int.tmod_lt_of_pos (-a) (show 0 < c by omega)
  rw [Int.neg_tmod] at h2
  omega
theorem tmod_fix (a c : Int) : a.tmod c % c = a % c := by
  have h1 := Int.mul_tdiv_add_tmod a c
  calc a.tmod c % c = (c * a.tdiv c + a.tmod c) % c := by rw [Int.mul_add_emod_self_left]
    _ = a % c := by rw [h1]
end Go.Proofs.Ytiponiflebmooaa

namespace Go.Proofs.Ytiponiflebmooaa
open Go.RowKit Go.Shelf
attribute [local go_sem] Oper.semAt_some
set_option maxRecDepth 1000000
/-- A block of cells stays as it is where blocks that are no cells turn. -/
theorem cells_own {β : Type} (b : Nat) (f : β → Array Value) (t : TypeId) : Own (fun (s : β) W => W.heap[b]? = some (.cells (f s) t (0, 0))) := fun s W W' row hs hg hr =>
  (hg.block b (Array.getElem?_eq_some_iff.1 hs).1 (fun e => by obtain ⟨o, ho, hc⟩ := hr b e.symm; rw [hs] at ho; cases ho; cases hc)).trans hs
def isDef : Op → Bool
  | .defer _ => true
  | _ => false
theorem no_defer {ops : Array Oper} (h : (ops.toList.all fun o => !isDef o.op) = true) : ∀ (i : Nat) (o : Oper), ops[i]? = some o → ∀ c, o.op ≠ .defer c := fun i o ho c e => by
  have h1 := List.all_eq_true.1 h o (by rw [← Array.getElem?_toList] at ho; exact List.mem_of_getElem? ho)
  rw [e] at h1
  cases h1
theorem keeps_below {W W' : World} (h : Below W.drew.heap.size W.drew W') : KeepsOthers W W' := ⟨h.size, fun k _ ho _ => (h.block k (Array.getElem?_eq_some_iff.1 ho).1).trans ho⟩
end Go.Proofs.Ytiponiflebmooaa

namespace Go.Proofs.Ytiponiflebmooaa
set_option maxRecDepth 1000000
/-- One place of y moved on by up, within blocks of B. -/
def stepF (B up y : Nat) : Nat := y / B * B + (y % B + up) % B
/-- The elements below n that stay within their block of B when moved on: those below d in it. -/
def stayM (n B d : Nat) : Nat := (2 ^ d - 1) * ((2 ^ n - 1) / (2 ^ B - 1))
/-- A set with one place moved on. -/
def stepS (n B up s : Nat) : Nat := ((s &&& stayM n B (B - up)) <<< up) ||| ((s ^^^ (s &&& stayM n B (B - up))) >>> (B - up))
def stayC : Bool := (List.range 25).all fun n => (List.range 25).all fun B => (B == 0 || n % B != 0) || (List.range (B + 1)).all fun d => (List.range 24).all fun k => (stayM n B d).testBit k == (decide (k < n) && decide (k % B < d))
theorem stayC_ok : stayC = true := by decide +kernel
theorem stay_all (n : Nat) (hn : n < 25) (B : Nat) (hB : B < 25) (h1 : 1 ≤ B) (hd : n % B = 0) (d : Nat) (h2 : d ≤ B) (k : Nat) (hk : k < 24) : (stayM n B d).testBit k = (decide (k < n) && decide (k % B < d)) := by
  have h := stayC_ok
  unfold stayC at h
  have a1 := List.all_eq_true.1 (List.all_eq_true.1 h n (List.mem_range.2 hn)) B (List.mem_range.2 hB)
  rw [Bool.or_eq_true] at a1
  rcases a1 with a1 | a1
  · rw [Bool.or_eq_true] at a1
    rcases a1 with a1 | a1
    · simp at a1; omega
    · simp [hd] at a1
  · have a2 := List.all_eq_true.1 (List.all_eq_true.1 a1 d (List.mem_range.2 (by omega))) k (List.mem_range.2 hk)
    exact eq_of_beq a2
theorem stay_lt {n B d : Nat} (hn : n ≤ 24) (hd : d ≤ 24) : stayM n B d < 281474976710656 := by
  unfold stayM
  have h1 : 2 ^ d ≤ 2 ^ 24 := Nat.pow_le_pow_right (by decide) hd
  have h2 : 2 ^ n ≤ 2 ^ 24 := Nat.pow_le_pow_right (by decide) hn
  have h3 := Nat.two_pow_pos d
  have h4 := Nat.two_pow_pos n
  have h5 : (2 ^ n - 1) / (2 ^ B - 1) ≤ 2 ^ 24 - 1 := Nat.le_trans (Nat.div_le_self _ _) (by omega)
  have h6 := Nat.mul_le_mul (show 2 ^ d - 1 ≤ 2 ^ 24 - 1 by omega) h5
  exact Nat.lt_of_le_of_lt h6 (by decide)
theorem stepF_lt {n B up y : Nat} (hB : 1 ≤ B) (hd : n % B = 0) (hy : y < n) : stepF B up y < n := by
  unfold stepF
  have h1 : y / B < n / B := (Nat.div_lt_iff_lt_mul (by omega)).2 (by rw [Nat.div_mul_cancel (Nat.dvd_of_mod_eq_zero hd)]; exact hy)
  have h2 := Nat.mod_lt (y % B + up) (show B > 0 by omega)
  have h3 : (y / B + 1) * B ≤ n / B * B := Nat.mul_le_mul_right B h1
  rw [Nat.div_mul_cancel (Nat.dvd_of_mod_eq_zero hd), Nat.add_mul] at h3
  generalize y / B * B = Q at *
  omega
theorem bit_of_lt {s n k : Nat} (hs : s < 2 ^ n) (h : s.testBit k = true) : k < n := by
  rcases Nat.lt_or_ge k n with h1 | h1
  · exact h1
  · rw [bit_no hs k h1] at h; cases h
theorem stepS_bit {n B up s : Nat} (hn : n ≤ 24) (hB : 1 ≤ B) (hd : n % B = 0) (hn0 : 1 ≤ n) (hup : up < B) (hs : s < 2 ^ n) (z : Nat) :
    (stepS n B up s).testBit z = true ↔ ∃ y, s.testBit y = true ∧ stepF B up y = z := by
  have hBn : B ≤ n := Nat.le_of_dvd hn0 (Nat.dvd_of_mod_eq_zero hd)
  have hst : ∀ k, s.testBit k = true → (stayM n B (B - up)).testBit k = decide (k % B < B - up) := fun k hk => by
    have hkn := bit_of_lt hs hk
    rw [stay_all n (by omega) B (by omega) hB hd (B - up) (by omega) k (by omega)]
    simp [hkn]
  unfold stepS
  rw [Nat.testBit_or, Nat.testBit_shiftLeft, Nat.testBit_shiftRight, Nat.testBit_and, Nat.testBit_xor, Nat.testBit_and]
  constructor
  · intro h
    rw [Bool.or_eq_true] at h
    rcases h with h | h
    · simp only [Bool.and_eq_true, decide_eq_true_eq] at h
      obtain ⟨h1, h2, h3⟩ := h
      rw [hst _ h2, decide_eq_true_eq] at h3
      refine ⟨z - up, h2, ?_⟩
      unfold stepF
      have e := Nat.div_add_mod' (z - up) B
      rw [Nat.mod_eq_of_lt (by omega)]
      generalize (z - up) / B * B = Q at *
      omega
    · have h2 : s.testBit (B - up + z) = true := by
        cases hc : s.testBit (B - up + z) with
        | true => rfl
        | false => rw [hc] at h; simp at h
      rw [hst _ h2, h2] at h
      have h3 : ¬ (B - up + z) % B < B - up := by simpa using h
      refine ⟨B - up + z, h2, ?_⟩
      unfold stepF
      have e := Nat.div_add_mod' (B - up + z) B
      have hm := Nat.mod_lt (B - up + z) (show B > 0 by omega)
      generalize (B - up + z) / B * B = Q at *
      generalize (B - up + z) % B = M at *
      have e2 : (M + up) % B = M + up - B := by
        rw [Nat.mod_eq_sub_mod (by omega), Nat.mod_eq_of_lt (by omega)]
      rw [e2]; omega
  · rintro ⟨y, hy, rfl⟩
    have e := Nat.div_add_mod' y B
    have hm := Nat.mod_lt y (show B > 0 by omega)
    have hsy := hst y hy
    unfold stepF
    by_cases hc : y % B < B - up
    · have e2 : (y % B + up) % B = y % B + up := Nat.mod_eq_of_lt (by omega)
      rw [e2]
      have e3 : y / B * B + (y % B + up) - up = y := by
        generalize y / B * B = Q at *; omega
      have e4 : y / B * B + (y % B + up) ≥ up := by
        generalize y / B * B = Q at *; omega
      rw [e3, hy, hsy]
      simp [hc, e4]
    · have e2 : (y % B + up) % B = y % B + up - B := by
        rw [Nat.mod_eq_sub_mod (by omega), Nat.mod_eq_of_lt (by omega)]
      rw [e2]
      have e3 : B - up + (y / B * B + (y % B + up - B)) = y := by
        generalize y / B * B = Q at *; omega
      rw [e3, hy, hsy]
      simp [hc]
theorem stepS_lt {n B up s : Nat} (hn : n ≤ 24) (hB : 1 ≤ B) (hd : n % B = 0) (hn0 : 1 ≤ n) (hup : up < B) (hs : s < 2 ^ n) : stepS n B up s < 2 ^ n := by
  apply Nat.lt_pow_two_of_testBit
  intro i hi
  cases h : (stepS n B up s).testBit i with
  | false => rfl
  | true =>
    obtain ⟨y, hy, e⟩ := (stepS_bit hn hB hd hn0 hup hs i).1 h
    have := stepF_lt (up := up) hB hd (bit_of_lt hs hy)
    omega
def triC : Bool := (List.range 25).all fun p => (List.range 25).all fun q => (p == 0 || (q == 0 || decide (24 < p * q))) || (List.range 25).all fun r => (r == 0 || decide (24 < p * q * r)) || (List.range (p * q * r)).all fun y => (List.range (p * q * r)).all fun x =>
  stepF (p * q * r) (p * q * (x / p / q % r)) (stepF (p * q) (p * (x / p % q)) (stepF p (x % p) y)) == (y % p + x % p) % p + p * ((y / p % q + x / p % q) % q) + p * q * ((y / p / q % r + x / p / q % r) % r)
theorem triC_ok : triC = true := by decide +kernel
theorem step_tri (p : Nat) (hp : p < 25) (p1 : 1 ≤ p) (q : Nat) (hq : q < 25) (q1 : 1 ≤ q) (hpq : p * q ≤ 24) (r : Nat) (hr : r < 25) (r1 : 1 ≤ r) (hpqr : p * q * r ≤ 24) (y : Nat) (hy : y < p * q * r) (x : Nat) (hx : x < p * q * r) :
    stepF (p * q * r) (p * q * (x / p / q % r)) (stepF (p * q) (p * (x / p % q)) (stepF p (x % p) y)) = (y % p + x % p) % p + p * ((y / p % q + x / p % q) % q) + p * q * ((y / p / q % r + x / p / q % r) % r) := by
  have h := triC_ok
  unfold triC at h
  have a1 := List.all_eq_true.1 (List.all_eq_true.1 h p (List.mem_range.2 hp)) q (List.mem_range.2 hq)
  rw [Bool.or_eq_true] at a1
  rcases a1 with a1 | a1
  · simp only [Bool.or_eq_true, beq_iff_eq, decide_eq_true_eq] at a1; omega
  · have a2 := List.all_eq_true.1 a1 r (List.mem_range.2 hr)
    rw [Bool.or_eq_true] at a2
    rcases a2 with a2 | a2
    · simp only [Bool.or_eq_true, beq_iff_eq, decide_eq_true_eq] at a2; omega
    · exact eq_of_beq (List.all_eq_true.1 (List.all_eq_true.1 a2 y (List.mem_range.2 hy)) x (List.mem_range.2 hx))
/-- The set moved by x, place by place. -/
def shN (p q r x s : Nat) : Nat := stepS (p * q * r) (p * q * r) (p * q * (x / p / q % r)) (stepS (p * q * r) (p * q) (p * (x / p % q)) (stepS (p * q * r) p (x % p) s))
theorem shN_bit {p q r x s : Nat} (hp : 1 ≤ p) (hq : 1 ≤ q) (hr : 1 ≤ r) (h24 : p * q * r ≤ 24) (hx : x < p * q * r) (hs : s < 2 ^ (p * q * r)) :
    shN p q r x s < 2 ^ (p * q * r) ∧ ∀ z, (shN p q r x s).testBit z = true ↔ ∃ y, s.testBit y = true ∧ (y % p + x % p) % p + p * ((y / p % q + x / p % q) % q) + p * q * ((y / p / q % r + x / p / q % r) % r) = z := by
  have hpq : p * q ≤ p * q * r := Nat.le_mul_of_pos_right _ (by omega)
  have hp24 : p ≤ p * q := Nat.le_mul_of_pos_right _ (by omega)
  have hq24 : q ≤ p * q := Nat.le_mul_of_pos_left _ (by omega)
  have hr24 : r ≤ p * q * r := Nat.le_mul_of_pos_left _ (by omega)
  have d1 : p * q * r % p = 0 := by rw [Nat.mul_assoc]; exact Nat.mul_mod_right _ _
  have d2 : p * q * r % (p * q) = 0 := Nat.mul_mod_right _ _
  have d3 : p * q * r % (p * q * r) = 0 := Nat.mod_self _
  have u1 : x % p < p := Nat.mod_lt _ (by omega)
  have u2 : p * (x / p % q) < p * q := Nat.mul_lt_mul_of_pos_left (Nat.mod_lt _ (by omega)) (by omega)
  have u3 : p * q * (x / p / q % r) < p * q * r := Nat.mul_lt_mul_of_pos_left (Nat.mod_lt _ (by omega)) (by omega)
  have l1 := stepS_lt h24 hp d1 (by omega) u1 hs
  have l2 := stepS_lt h24 (by omega) d2 (by omega) u2 l1
  have l3 := stepS_lt h24 (by omega) d3 (by omega) u3 l2
  refine ⟨l3, fun z => ?_⟩
  unfold shN
  rw [stepS_bit h24 (by omega) d3 (by omega) u3 l2]
  have T := fun y hy x hx => step_tri p (by omega) hp q (by omega) hq (by omega) r (by omega) hr h24 y hy x hx
  constructor
  · rintro ⟨y2, h2, e2⟩
    obtain ⟨y1, h1, e1⟩ := (stepS_bit h24 (by omega) d2 (by omega) u2 l1 y2).1 h2
    obtain ⟨y, h, e⟩ := (stepS_bit h24 hp d1 (by omega) u1 hs y1).1 h1
    refine ⟨y, h, ?_⟩
    rw [← T y (bit_of_lt hs h) x hx, e, e1, e2]
  · rintro ⟨y, h, e⟩
    rw [← T y (bit_of_lt hs h) x hx] at e
    exact ⟨_, (stepS_bit h24 (by omega) d2 (by omega) u2 l1 _).2 ⟨_, (stepS_bit h24 hp d1 (by omega) u1 hs _).2 ⟨y, h, rfl⟩, rfl⟩, e⟩
/-- The shifted element, by its three places. -/
def shF (p q r u v t : Int) (y : Nat) : Int := ((y : Int) % p + u) % p + p * (((y : Int) / p % q + v) % q) + p * q * (((y : Int) / p / q % r + t) % r)
theorem shN_orF {p q r x s : Nat} (hp : 1 ≤ p) (hq : 1 ≤ q) (hr : 1 ≤ r) (h24 : p * q * r ≤ 24) (hx : x < p * q * r) (hs : s < 2 ^ (p * q * r)) :
    shN p q r x s = orF (shF p q r ((x : Int) % p) ((x : Int) / p % q) ((x : Int) / p / q % r)) (bitsN s) := by
  have hs24 : s < 2 ^ 24 := Nat.lt_of_lt_of_le hs (Nat.pow_le_pow_right (by decide) h24)
  apply Nat.eq_of_testBit_eq
  intro z
  apply Bool.eq_iff_iff.2
  rw [(shN_bit hp hq hr h24 hx hs).2 z, orF_bit]
  have e : ∀ y : Nat, (shF p q r ((x : Int) % p) ((x : Int) / p % q) ((x : Int) / p / q % r) y).toNat = (y % p + x % p) % p + p * ((y / p % q + x / p % q) % q) + p * q * ((y / p / q % r + x / p / q % r) % r) := fun y => by
    have : shF p q r ((x : Int) % p) ((x : Int) / p % q) ((x : Int) / p / q % r) y = (((y % p + x % p) % p + p * ((y / p % q + x / p % q) % q) + p * q * ((y / p / q % r + x / p / q % r) % r) : Nat) : Int) := by
      unfold shF; push_cast; rfl
    rw [this, Int.toNat_natCast]
  constructor
  · rintro ⟨y, hy, h⟩; exact ⟨y, (mem_bits hs24 y).2 hy, by rw [e]; exact h⟩
  · rintro ⟨y, hy, h⟩; exact ⟨y, (mem_bits hs24 y).1 hy, by rw [← e]; exact h⟩
end Go.Proofs.Ytiponiflebmooaa

namespace Go.Proofs.Ytiponiflebmooaa
open Go.RowKit
set_option maxRecDepth 1000000
theorem shF_bnd {p q r u v t : Int} (h : Tri p q r) (y : Nat) : 0 ≤ shF p q r u v t y ∧ shF p q r u v t y ≤ 23 := by
  have a := emod_b (a := (y : Int) % p + u) h.p1
  have b := emod_b (a := (y : Int) / p % q + v) h.q1
  have c := emod_b (a := (y : Int) / p / q % r + t) h.r1
  have h3 := h.pqr2
  have hp := h.p1
  have hq := h.q1
  have hpq := h.pq1
  unfold shF
  generalize ((y : Int) % p + u) % p = A at *
  generalize ((y : Int) / p % q + v) % q = B at *
  generalize ((y : Int) / p / q % r + t) % r = C at *
  have m1 : 0 ≤ p * B := Int.mul_nonneg (by omega) b.1
  have m2 : p * B ≤ p * (q - 1) := Int.mul_le_mul_of_nonneg_left (by omega) (by omega)
  have m3 : 0 ≤ p * q * C := Int.mul_nonneg (by omega) c.1
  have m4 : p * q * C ≤ p * q * (r - 1) := Int.mul_le_mul_of_nonneg_left (by omega) (by omega)
  rw [Int.mul_sub, Int.mul_one] at m2 m4
  omega
theorem orF_snoc_lt {p q r u v t : Int} (h : Tri p q r) (L : List Nat) : orF (shF p q r u v t) L < 16777216 :=
  orF_lt _ _ 24 (fun x _ => by have := shF_bnd (u := u) (v := v) (t := t) h x; omega)
theorem pow_wrap {k : Int} (_ : 0 ≤ k) (h : k ≤ 24) : IntKind.u64.wrap (IntKind.u64.wrap (2 ^ k.toNat) - 1) = ((2 ^ k.toNat - 1 : Nat) : Int) := by
  have hp := pow_le24 (k := k.toNat) (by omega)
  have h0 := Nat.two_pow_pos k.toNat
  rw [pow_nat, IntKind.wrap_u64, IntKind.wrap_u64]
  generalize 2 ^ k.toNat = M at *
  omega
theorem and_not_nat (a b : Nat) (hb : b < 2 ^ 64) (ha : a < 2 ^ 64) : a &&& (2 ^ 64 - 1 - b) = a ^^^ (a &&& b) := by
  apply Nat.eq_of_testBit_eq
  intro i
  rw [Nat.testBit_and, Nat.testBit_xor, Nat.testBit_and, show 2 ^ 64 - 1 - b = 2 ^ 64 - (b + 1) by omega, Nat.testBit_two_pow_sub_succ hb]
  by_cases hi : i < 64
  · simp only [hi, decide_true, Bool.true_and]
    cases a.testBit i <;> cases b.testBit i <;> rfl
  · rw [bit_no ha i (by omega)]; simp
theorem bits_andNot (a b : Nat) (ha : a < 18446744073709551616) (hb : b < 18446744073709551616) : bits .andNot .u64 (a : Int) (b : Int) = ((a ^^^ (a &&& b) : Nat) : Int) := by
  have h1 : (BitVec.ofInt 64 (a : Int)).toNat = a := by
    rw [BitVec.ofInt_natCast, BitVec.toNat_ofNat]; exact Nat.mod_eq_of_lt (by omega)
  have h2 : (BitVec.ofInt 64 (b : Int)).toNat = b := by
    rw [BitVec.ofInt_natCast, BitVec.toNat_ofNat]; exact Nat.mod_eq_of_lt (by omega)
  show IntKind.u64.wrap ((BitVec.ofInt 64 (a : Int) &&& ~~~ BitVec.ofInt 64 (b : Int)).toNat : Int) = _
  rw [BitVec.toNat_and, BitVec.toNat_not, h1, h2, and_not_nat a b hb ha]
  have h3 : a ^^^ (a &&& b) < 2 ^ 64 := Nat.xor_lt_two_pow ha (Nat.lt_of_le_of_lt Nat.and_le_left ha)
  rw [IntKind.wrap_u64]
  generalize a ^^^ (a &&& b) = c at *
  omega
/-- One round's reckonings, in the walk's own spelling. -/
theorem rndF (n : Nat) (b up : Int) (s : Nat) (N : Int) (hN : N = ((2 ^ n : Nat) : Int) - 1) (hn : n ≤ 24) (hn1 : 1 ≤ n) (hb : 1 ≤ b) (hd : n % b.toNat = 0) (h0 : 0 ≤ up) (h1 : up < b) (hs : s < 2 ^ n) :
    ∃ D M Q ST A L C R : Int, ∃ S1 : Nat, (S1 = stepS n b.toNat up.toNat s ∧ S1 < 2 ^ n) ∧ (1 ≤ D ∧ D ≤ 16777215) ∧ IntKind.u64.wrap (IntKind.u64.wrap (2 ^ b.toNat) - 1) = D ∧ IntKind.u64.wrap (IntKind.u64.wrap (2 ^ (b - up).toNat) - 1) = M ∧
      IntKind.u64.wrap (N.tdiv D) = Q ∧ IntKind.u64.wrap (M * Q) = ST ∧ bits .and .u64 (s : Int) ST = A ∧ IntKind.u64.wrap (A * 2 ^ up.toNat) = L ∧ bits .andNot .u64 (s : Int) ST = C ∧ C / 2 ^ (b - up).toNat = R ∧ bits .or .u64 L R = (S1 : Int) := by
  have hbn : b.toNat ≤ n := Nat.le_of_dvd hn1 (Nat.dvd_of_mod_eq_zero hd)
  have hS := stepS_lt (up := up.toNat) hn (by omega) hd hn1 (by omega) hs
  have e1 := pow_wrap (k := b) (by omega) (by omega)
  have e2 := pow_wrap (k := b - up) (by omega) (by omega)
  have hst := stay_lt (n := n) (B := b.toNat) (d := (b - up).toNat) hn (by omega)
  have p2 : 2 ^ 1 ≤ 2 ^ b.toNat := Nat.pow_le_pow_right (by decide) (by omega)
  have p3 := pow_le24 (k := b.toNat) (by omega)
  have pn := pow_le24 (k := n) hn
  have pn0 := Nat.two_pow_pos n
  have hs24 : s < 16777216 := Nat.lt_of_lt_of_le hs pn
  have eb : (b - up).toNat = b.toNat - up.toNat := by omega
  have hq : IntKind.u64.wrap (N.tdiv ((2 ^ b.toNat - 1 : Nat) : Int)) = (((2 ^ n - 1) / (2 ^ b.toNat - 1) : Nat) : Int) := by
    have : N = ((2 ^ n - 1 : Nat) : Int) := by rw [hN]; generalize 2 ^ n = K at *; omega
    rw [this, Int.tdiv_eq_ediv_of_nonneg (by omega), ← Int.natCast_ediv, IntKind.wrap_u64]
    have hle : (2 ^ n - 1) / (2 ^ b.toNat - 1) ≤ 2 ^ n - 1 := Nat.div_le_self _ _
    generalize (2 ^ n - 1) / (2 ^ b.toNat - 1) = K at *
    omega
  have hm : IntKind.u64.wrap (((2 ^ (b - up).toNat - 1 : Nat) : Int) * (((2 ^ n - 1) / (2 ^ b.toNat - 1) : Nat) : Int)) = ((stayM n b.toNat (b - up).toNat : Nat) : Int) := by
    rw [← Int.natCast_mul, IntKind.wrap_u64]
    show ((stayM n b.toNat (b - up).toNat : Nat) : Int) % _ = _
    omega
  have ha := bits_and_u64_nat s (stayM n b.toNat (b - up).toNat) (by omega) (by omega)
  have hc := bits_andNot s (stayM n b.toNat (b - up).toNat) (by omega) (by omega)
  rw [eb] at hm ha hc hst e2
  have hA : s &&& stayM n b.toNat (b.toNat - up.toNat) ≤ s := Nat.and_le_left
  have hC : s ^^^ (s &&& stayM n b.toNat (b.toNat - up.toNat)) < 2 ^ n := Nat.xor_lt_two_pow hs (Nat.lt_of_le_of_lt hA hs)
  have pu := pow_le24 (k := up.toNat) (by omega)
  have hL : IntKind.u64.wrap (((s &&& stayM n b.toNat (b.toNat - up.toNat) : Nat) : Int) * 2 ^ up.toNat) = (((s &&& stayM n b.toNat (b.toNat - up.toNat)) <<< up.toNat : Nat) : Int) := by
    rw [pow_nat, ← Int.natCast_mul, Nat.shiftLeft_eq, IntKind.wrap_u64]
    have := Nat.mul_le_mul (Nat.le_trans hA (Nat.le_of_lt hs24)) pu
    generalize (s &&& stayM n b.toNat (b.toNat - up.toNat)) * 2 ^ up.toNat = K at *
    omega
  have hLb : (s &&& stayM n b.toNat (b.toNat - up.toNat)) <<< up.toNat < 18446744073709551616 := by
    rw [Nat.shiftLeft_eq]
    have := Nat.mul_le_mul (Nat.le_trans hA (Nat.le_of_lt hs24)) pu
    omega
  have hR : ((s ^^^ (s &&& stayM n b.toNat (b.toNat - up.toNat)) : Nat) : Int) / 2 ^ (b - up).toNat = (((s ^^^ (s &&& stayM n b.toNat (b.toNat - up.toNat))) >>> (b.toNat - up.toNat) : Nat) : Int) := by
    rw [eb, pow_nat, ← Int.natCast_ediv, Nat.shiftRight_eq_div_pow]
  have hRb : (s ^^^ (s &&& stayM n b.toNat (b.toNat - up.toNat))) >>> (b.toNat - up.toNat) < 18446744073709551616 := by
    rw [Nat.shiftRight_eq_div_pow]
    exact Nat.lt_of_le_of_lt (Nat.div_le_self _ _) (by omega)
  have hO := bits_or_u64_nat _ _ hLb hRb
  rw [← eb] at e2
  refine ⟨_, _, _, _, _, _, _, _, _, ⟨rfl, hS⟩, ?_, e1, e2, hq, ?_, ha, hL, hc, hR, hO⟩
  · generalize 2 ^ b.toNat = K at *; omega
  · rw [eb]; exact hm
set_option maxHeartbeats 4000000 in
theorem iShiftN (w : World) (p q r : Int) (s x : Nat) (h : Tri p q r) (hs : s < 2 ^ (p * q * r).toNat) (hx : (x : Int) < p * q * r) :
    Calls Try.prog 32 #[tV p q r, .int .u64 s, .int .i64 x] w fun e w' => e = .returned (.int .u64 (orF (shF p q r ((x : Int) % p) ((x : Int) / p % q) ((x : Int) / p / q % r)) (bitsN s) : Nat)) ∧ Below w.heap.size w w' := by
  have HTR := Lib.hid h
  obtain ⟨h1, h2, h3, h4, h5, h6, h7, h8, h9, h10⟩ := h
  have X0 := ix0
  have X1 := ix1
  have X2 := ix2
  have hx0 : (0 : Int) ≤ x := by omega
  have hx23 : (x : Int) ≤ 23 := by omega
  have IPL := Lib.hid (fun (W : World) => iPlaces W p q r x HTR.out hx0 hx23)
  have HR : Hid (shN p.toNat q.toNat r.toNat x s = orF (shF p q r ((x : Int) % p) ((x : Int) / p % q) ((x : Int) / p / q % r)) (bitsN s)) := Lib.hid (by
    have hp : ((p.toNat : Nat) : Int) = p := Int.toNat_of_nonneg (by omega)
    have hq : ((q.toNat : Nat) : Int) = q := Int.toNat_of_nonneg (by omega)
    have hr : ((r.toNat : Nat) : Int) = r := Int.toNat_of_nonneg (by omega)
    have e : p.toNat * q.toNat * r.toNat = (p * q * r).toNat := by
      have : ((p.toNat * q.toNat * r.toNat : Nat) : Int) = p * q * r := by rw [Int.natCast_mul, Int.natCast_mul, hp, hq, hr]
      omega
    have := shN_orF (p := p.toNat) (q := q.toNat) (r := r.toNat) (x := x) (s := s) (by omega) (by omega) (by omega) (by omega) (by omega) (by rw [e]; exact hs)
    rwa [hp, hq, hr] at this)
  obtain ⟨N, HN⟩ : ∃ N, Hid (N = ((2 ^ (p * q * r).toNat : Nat) : Int) - 1) := ⟨_, Lib.hid rfl⟩
  obtain ⟨u, HU⟩ : ∃ u, Hid ((x : Int) % p = u) := ⟨_, Lib.hid rfl⟩
  obtain ⟨v, HV⟩ : ∃ u, Hid ((x : Int) / p % q = u) := ⟨_, Lib.hid rfl⟩
  obtain ⟨t, HT⟩ : ∃ u, Hid ((x : Int) / p / q % r = u) := ⟨_, Lib.hid rfl⟩
  have BU : 0 ≤ u ∧ u < p := by rw [← HU.out]; exact emod_b h1
  have BV : 0 ≤ v ∧ v < q := by rw [← HV.out]; exact emod_b h3
  have BT : 0 ≤ t ∧ t < r := by rw [← HT.out]; exact emod_b h5
  have v0 : 0 ≤ p * v := Int.mul_nonneg (by omega) BV.1
  have v1 : p * v < p * q := Int.mul_lt_mul_of_pos_left BV.2 (by omega)
  have t0 : 0 ≤ p * q * t := Int.mul_nonneg (by omega) BT.1
  have t1 : p * q * t < p * q * r := Int.mul_lt_mul_of_pos_left BT.2 (by omega)
  have d1 : (p * q * r).toNat % p.toNat = 0 := by
    have : (p * q * r) % p = 0 := by rw [Int.mul_assoc]; exact Int.mul_emod_right _ _
    have := Int.toNat_emod (x := p * q * r) (y := p) (by omega) (by omega)
    omega
  have d2 : (p * q * r).toNat % (p * q).toNat = 0 := by
    have : (p * q * r) % (p * q) = 0 := Int.mul_emod_right _ _
    have := Int.toNat_emod (x := p * q * r) (y := p * q) (by omega) (by omega)
    omega
  obtain ⟨D1, M1, Q1, ST1, A1, L1, C1, R1, S1, ⟨g1, g2⟩, gd1, ea1, ea2, ea3, ea4, ea5, ea6, ea7, ea8, ea9⟩ := rndF (p * q * r).toNat p u s N HN.out (by omega) (by omega) h1 d1 BU.1 BU.2 hs
  obtain ⟨D2, M2, Q2, ST2, A2, L2, C2, R2, S2, ⟨g3, g4⟩, gd2, eb1, eb2, eb3, eb4, eb5, eb6, eb7, eb8, eb9⟩ := rndF (p * q * r).toNat (p * q) (p * v) S1 N HN.out (by omega) (by omega) h7 d2 v0 v1 g2
  obtain ⟨D3, M3, Q3, ST3, A3, L3, C3, R3, S3, ⟨g5, g6⟩, gd3, ec1, ec2, ec3, ec4, ec5, ec6, ec7, ec8, ec9⟩ := rndF (p * q * r).toNat (p * q * r) (p * q * t) S2 N HN.out (by omega) (by omega) h9 (Nat.mod_self _) t0 t1 g4
  have HS3 : Hid (S3 = orF (shF p q r ((x : Int) % p) ((x : Int) / p % q) ((x : Int) / p / q % r)) (bitsN s)) := Lib.hid (by
    rw [← HR.out, g5, g3, g1]
    unfold shN
    have hp : ((p.toNat : Nat) : Int) = p := Int.toNat_of_nonneg (by omega)
    have hq : ((q.toNat : Nat) : Int) = q := Int.toNat_of_nonneg (by omega)
    have hr : ((r.toNat : Nat) : Int) = r := Int.toNat_of_nonneg (by omega)
    have f1 : p.toNat * q.toNat = (p * q).toNat := by
      have : ((p.toNat * q.toNat : Nat) : Int) = p * q := by rw [Int.natCast_mul, hp, hq]
      omega
    have f2 : p.toNat * q.toNat * r.toNat = (p * q * r).toNat := by
      have : ((p.toNat * q.toNat * r.toNat : Nat) : Int) = p * q * r := by rw [Int.natCast_mul, Int.natCast_mul, hp, hq, hr]
      omega
    have f3 : x % p.toNat = u.toNat := by
      have : ((x % p.toNat : Nat) : Int) = u := by rw [Int.natCast_emod, hp, HU.out]
      omega
    have f4 : p.toNat * (x / p.toNat % q.toNat) = (p * v).toNat := by
      have : ((p.toNat * (x / p.toNat % q.toNat) : Nat) : Int) = p * v := by rw [Int.natCast_mul, Int.natCast_emod, Int.natCast_ediv, hp, hq, HV.out]
      omega
    have f5 : p.toNat * q.toNat * (x / p.toNat / q.toNat % r.toNat) = (p * q * t).toNat := by
      have : ((p.toNat * q.toNat * (x / p.toNat / q.toNat % r.toNat) : Nat) : Int) = p * q * t := by rw [Int.natCast_mul, Int.natCast_mul, Int.natCast_emod, Int.natCast_ediv, Int.natCast_ediv, hp, hq, hr, HT.out]
      omega
    rw [f5, f4, f3, f2, f1])
  rw [← HS3.out]
  rw [HU.out, HV.out, HT.out] at IPL
  have n1 : D1 ≠ 0 := by omega
  have n2 : D2 ≠ 0 := by omega
  have n3 : D3 ≠ 0 := by omega
  clear g1 g2 g3 g4 g5 g6 d1 d2 hs
  go_enter Try.func32, Try.ntmps32
  go_wp2_with (go_at_call 36; refine (IPL.out _).mono ?_; rintro e w1 ⟨rfl, hb1⟩; have T1 := Lib.hid hb1; obtain ⟨c0, c1, c2, _, _, _⟩ := trip_cell (keepH hb1 (by simp) (heap_alloc_new w (.cells #[.int .i64 p, .int .i64 q, .int .i64 r] 41))))
  refine wp_loop_rounds 4 ?_
  rw [rounds_succ]; go_wp2
  go_region_held3 (fun W => W.cell? ⟨w.heap.size, 0, none⟩ = some (.int .i64 p) ∧ W.cell? ⟨w.heap.size, 1, none⟩ = some (.int .i64 q) ∧ W.cell? ⟨w.heap.size, 2, none⟩ = some (.int .i64 r)) (first | exact ⟨c0, c1, c2⟩ | exact ⟨d0, d1, d2⟩)
    (first | (go_at_call 37; refine (iFull _ p q r N HTR.out HN.out).mono ?_; rintro e w2 ⟨rfl, hb2⟩; have T2 := Lib.hid (T1.out.drew.trans (hb2.mono T1.out.drew.size)); obtain ⟨d0, d1, d2, _, _, _⟩ := trip_cell (keepH T2.out (by simp) (heap_alloc_new w (.cells #[.int .i64 p, .int .i64 q, .int .i64 r] 41)))))
  all_goals go_wp2
  go_region
  go_wp2
  rw [rounds_succ]; go_wp2
  go_region_held3 (fun W => W.cell? ⟨w.heap.size, 0, none⟩ = some (.int .i64 p) ∧ W.cell? ⟨w.heap.size, 1, none⟩ = some (.int .i64 q) ∧ W.cell? ⟨w.heap.size, 2, none⟩ = some (.int .i64 r)) (first | exact ⟨d0, d1, d2⟩ | exact ⟨e0, e1, e2⟩)
    (first | (go_at_call 37; refine (iFull _ p q r N HTR.out HN.out).mono ?_; rintro e w3 ⟨rfl, hb3⟩; have T3 := Lib.hid (T2.out.drew.drew.trans (hb3.mono T2.out.drew.drew.size)); obtain ⟨e0, e1, e2, _, _, _⟩ := trip_cell (keepH T3.out (by simp) (heap_alloc_new w (.cells #[.int .i64 p, .int .i64 q, .int .i64 r] 41)))))
  all_goals go_wp2
  go_region
  go_wp2
  rw [rounds_succ]; go_wp2
  go_region_held3 (fun W => W.cell? ⟨w.heap.size, 0, none⟩ = some (.int .i64 p) ∧ W.cell? ⟨w.heap.size, 1, none⟩ = some (.int .i64 q) ∧ W.cell? ⟨w.heap.size, 2, none⟩ = some (.int .i64 r)) (first | exact ⟨e0, e1, e2⟩ | exact ⟨f0, f1, f2⟩)
    (first | (go_at_call 37; refine (iFull _ p q r N HTR.out HN.out).mono ?_; rintro e w4 ⟨rfl, hb4⟩; have T4 := Lib.hid (T3.out.drew.drew.trans (hb4.mono T3.out.drew.drew.size)); obtain ⟨f0, f1, f2, _, _, _⟩ := trip_cell (keepH T4.out (by simp) (heap_alloc_new w (.cells #[.int .i64 p, .int .i64 q, .int .i64 r] 41)))))
  all_goals go_wp2
  go_region
  go_wp2
  rw [rounds_succ]; go_wp2
  go_ret
  exact ⟨rfl, (Joins.below_alloc1 w _).trans (T4.out.drew.mono (by simp))⟩
end Go.Proofs.Ytiponiflebmooaa
