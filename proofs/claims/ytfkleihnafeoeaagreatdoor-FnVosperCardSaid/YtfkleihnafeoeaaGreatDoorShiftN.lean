/- The program's own shift of a set, place by place. -/
import Derived.Test.YtfkleihnafeoeaaGreatDoorShMath
import Derived.Test.YtfkleihnafeoeaaGreatDoorGrpMul
import Derived.Test.YtfkleihnafeoeaaGreatDoorSetBits
import Derived.Test.YtfkleihnafeoeaaGreatDoorSetIn
import Derived.Deep.RegionHeld3
import Derived.Deep.DeepCutAuto
namespace Go.Proofs.YtfkleihnafeoeaaGreatDoor
open Go.RowKit
set_option maxRecDepth 1000000
theorem shF_bnd {p q r u v t : Int} (h : Tri p q r) (y : Nat) : 0 ≤ shF p q r u v t y ∧ shF p q r u v t y ≤ 23 := by
  have a := emod_b (a := (y : Int) % p + u) h.p1
  have b := emod_b (a := (y : Int) / p % q + v) h.q1
  have c := emod_b (a := (y : Int) / p / q % r + t) h.r1
  have h3 := h.pqr2
  have hp := h.p1
  have hq := h.q1
  have hpq := h.pq1
  unfold shF
  generalize ((y : Int) % p + u) % p = A at *
  generalize ((y : Int) / p % q + v) % q = B at *
  generalize ((y : Int) / p / q % r + t) % r = C at *
  have m1 : 0 ≤ p * B := Int.mul_nonneg (by omega) b.1
  have m2 : p * B ≤ p * (q - 1) := Int.mul_le_mul_of_nonneg_left (by omega) (by omega)
  have m3 : 0 ≤ p * q * C := Int.mul_nonneg (by omega) c.1
  have m4 : p * q * C ≤ p * q * (r - 1) := Int.mul_le_mul_of_nonneg_left (by omega) (by omega)
  rw [Int.mul_sub, Int.mul_one] at m2 m4
  omega
theorem orF_snoc_lt {p q r u v t : Int} (h : Tri p q r) (L : List Nat) : orF (shF p q r u v t) L < 16777216 :=
  orF_lt _ _ 24 (fun x _ => by have := shF_bnd (u := u) (v := v) (t := t) h x; omega)
theorem pow_wrap {k : Int} (_ : 0 ≤ k) (h : k ≤ 24) : IntKind.u64.wrap (IntKind.u64.wrap (2 ^ k.toNat) - 1) = ((2 ^ k.toNat - 1 : Nat) : Int) := by
  have hp := pow_le24 (k := k.toNat) (by omega)
  have h0 := Nat.two_pow_pos k.toNat
  rw [pow_nat, IntKind.wrap_u64, IntKind.wrap_u64]
  generalize 2 ^ k.toNat = M at *
  omega
theorem and_not_nat (a b : Nat) (hb : b < 2 ^ 64) (ha : a < 2 ^ 64) : a &&& (2 ^ 64 - 1 - b) = a ^^^ (a &&& b) := by
  apply Nat.eq_of_testBit_eq
  intro i
  rw [Nat.testBit_and, Nat.testBit_xor, Nat.testBit_and, show 2 ^ 64 - 1 - b = 2 ^ 64 - (b + 1) by omega, Nat.testBit_two_pow_sub_succ hb]
  by_cases hi : i < 64
  · simp only [hi, decide_true, Bool.true_and]
    cases a.testBit i <;> cases b.testBit i <;> rfl
  · rw [bit_no ha i (by omega)]; simp
theorem bits_andNot (a b : Nat) (ha : a < 18446744073709551616) (hb : b < 18446744073709551616) : bits .andNot .u64 (a : Int) (b : Int) = ((a ^^^ (a &&& b) : Nat) : Int) := by
  have h1 : (BitVec.ofInt 64 (a : Int)).toNat = a := by
    rw [BitVec.ofInt_natCast, BitVec.toNat_ofNat]; exact Nat.mod_eq_of_lt (by omega)
  have h2 : (BitVec.ofInt 64 (b : Int)).toNat = b := by
    rw [BitVec.ofInt_natCast, BitVec.toNat_ofNat]; exact Nat.mod_eq_of_lt (by omega)
  show IntKind.u64.wrap ((BitVec.ofInt 64 (a : Int) &&& ~~~ BitVec.ofInt 64 (b : Int)).toNat : Int) = _
  rw [BitVec.toNat_and, BitVec.toNat_not, h1, h2, and_not_nat a b hb ha]
  have h3 : a ^^^ (a &&& b) < 2 ^ 64 := Nat.xor_lt_two_pow ha (Nat.lt_of_le_of_lt Nat.and_le_left ha)
  rw [IntKind.wrap_u64]
  generalize a ^^^ (a &&& b) = c at *
  omega
/-- One round's reckonings, in the walk's own spelling. -/
theorem rndF (n : Nat) (b up : Int) (s : Nat) (N : Int) (hN : N = ((2 ^ n : Nat) : Int) - 1) (hn : n ≤ 24) (hn1 : 1 ≤ n) (hb : 1 ≤ b) (hd : n % b.toNat = 0) (h0 : 0 ≤ up) (h1 : up < b) (hs : s < 2 ^ n) :
    ∃ D M Q ST A L C R : Int, ∃ S1 : Nat, (S1 = stepS n b.toNat up.toNat s ∧ S1 < 2 ^ n) ∧ (1 ≤ D ∧ D ≤ 16777215) ∧ IntKind.u64.wrap (IntKind.u64.wrap (2 ^ b.toNat) - 1) = D ∧ IntKind.u64.wrap (IntKind.u64.wrap (2 ^ (b - up).toNat) - 1) = M ∧
      IntKind.u64.wrap (N.tdiv D) = Q ∧ IntKind.u64.wrap (M * Q) = ST ∧ bits .and .u64 (s : Int) ST = A ∧ IntKind.u64.wrap (A * 2 ^ up.toNat) = L ∧ bits .andNot .u64 (s : Int) ST = C ∧ C / 2 ^ (b - up).toNat = R ∧ bits .or .u64 L R = (S1 : Int) := by
  have hbn : b.toNat ≤ n := Nat.le_of_dvd hn1 (Nat.dvd_of_mod_eq_zero hd)
  have hS := stepS_lt (up := up.toNat) hn (by omega) hd hn1 (by omega) hs
  have e1 := pow_wrap (k := b) (by omega) (by omega)
  have e2 := pow_wrap (k := b - up) (by omega) (by omega)
  have hst := stay_lt (n := n) (B := b.toNat) (d := (b - up).toNat) hn (by omega)
  have p2 : 2 ^ 1 ≤ 2 ^ b.toNat := Nat.pow_le_pow_right (by decide) (by omega)
  have p3 := pow_le24 (k := b.toNat) (by omega)
  have pn := pow_le24 (k := n) hn
  have pn0 := Nat.two_pow_pos n
  have hs24 : s < 16777216 := Nat.lt_of_lt_of_le hs pn
  have eb : (b - up).toNat = b.toNat - up.toNat := by omega
  have hq : IntKind.u64.wrap (N.tdiv ((2 ^ b.toNat - 1 : Nat) : Int)) = (((2 ^ n - 1) / (2 ^ b.toNat - 1) : Nat) : Int) := by
    have : N = ((2 ^ n - 1 : Nat) : Int) := by rw [hN]; generalize 2 ^ n = K at *; omega
    rw [this, Int.tdiv_eq_ediv_of_nonneg (by omega), ← Int.natCast_ediv, IntKind.wrap_u64]
    have hle : (2 ^ n - 1) / (2 ^ b.toNat - 1) ≤ 2 ^ n - 1 := Nat.div_le_self _ _
    generalize (2 ^ n - 1) / (2 ^ b.toNat - 1) = K at *
    omega
  have hm : IntKind.u64.wrap (((2 ^ (b - up).toNat - 1 : Nat) : Int) * (((2 ^ n - 1) / (2 ^ b.toNat - 1) : Nat) : Int)) = ((stayM n b.toNat (b - up).toNat : Nat) : Int) := by
    rw [← Int.natCast_mul, IntKind.wrap_u64]
    show ((stayM n b.toNat (b - up).toNat : Nat) : Int) % _ = _
    omega
  have ha := bits_and_u64_nat s (stayM n b.toNat (b - up).toNat) (by omega) (by omega)
  have hc := bits_andNot s (stayM n b.toNat (b - up).toNat) (by omega) (by omega)
  rw [eb] at hm ha hc hst e2
  have hA : s &&& stayM n b.toNat (b.toNat - up.toNat) ≤ s := Nat.and_le_left
  have hC : s ^^^ (s &&& stayM n b.toNat (b.toNat - up.toNat)) < 2 ^ n := Nat.xor_lt_two_pow hs (Nat.lt_of_le_of_lt hA hs)
  have pu := pow_le24 (k := up.toNat) (by omega)
  have hL : IntKind.u64.wrap (((s &&& stayM n b.toNat (b.toNat - up.toNat) : Nat) : Int) * 2 ^ up.toNat) = (((s &&& stayM n b.toNat (b.toNat - up.toNat)) <<< up.toNat : Nat) : Int) := by
    rw [pow_nat, ← Int.natCast_mul, Nat.shiftLeft_eq, IntKind.wrap_u64]
    have := Nat.mul_le_mul (Nat.le_trans hA (Nat.le_of_lt hs24)) pu
    generalize (s &&& stayM n b.toNat (b.toNat - up.toNat)) * 2 ^ up.toNat = K at *
    omega
  have hLb : (s &&& stayM n b.toNat (b.toNat - up.toNat)) <<< up.toNat < 18446744073709551616 := by
    rw [Nat.shiftLeft_eq]
    have := Nat.mul_le_mul (Nat.le_trans hA (Nat.le_of_lt hs24)) pu
    omega
  have hR : ((s ^^^ (s &&& stayM n b.toNat (b.toNat - up.toNat)) : Nat) : Int) / 2 ^ (b - up).toNat = (((s ^^^ (s &&& stayM n b.toNat (b.toNat - up.toNat))) >>> (b.toNat - up.toNat) : Nat) : Int) := by
    rw [eb, pow_nat, ← Int.natCast_ediv, Nat.shiftRight_eq_div_pow]
  have hRb : (s ^^^ (s &&& stayM n b.toNat (b.toNat - up.toNat))) >>> (b.toNat - up.toNat) < 18446744073709551616 := by
    rw [Nat.shiftRight_eq_div_pow]
    exact Nat.lt_of_le_of_lt (Nat.div_le_self _ _) (by omega)
  have hO := bits_or_u64_nat _ _ hLb hRb
  rw [← eb] at e2
  refine ⟨_, _, _, _, _, _, _, _, _, ⟨rfl, hS⟩, ?_, e1, e2, hq, ?_, ha, hL, hc, hR, hO⟩
  · generalize 2 ^ b.toNat = K at *; omega
  · rw [eb]; exact hm
set_option maxHeartbeats 4000000 in
theorem iShiftN (w : World) (p q r : Int) (s x : Nat) (h : Tri p q r) (hs : s < 2 ^ (p * q * r).toNat) (hx : (x : Int) < p * q * r) :
    Calls Tryz.prog 65 #[tV p q r, .int .u64 s, .int .i64 x] w fun e w' => e = .returned (.int .u64 (orF (shF p q r ((x : Int) % p) ((x : Int) / p % q) ((x : Int) / p / q % r)) (bitsN s) : Nat)) ∧ Below w.heap.size w w' := by
  have HTR := Lib.hid h
  obtain ⟨h1, h2, h3, h4, h5, h6, h7, h8, h9, h10⟩ := h
  have X0 := ix0
  have X1 := ix1
  have X2 := ix2
  have hx0 : (0 : Int) ≤ x := by omega
  have hx23 : (x : Int) ≤ 23 := by omega
  have IPL := Lib.hid (fun (W : World) => iPlaces W p q r x HTR.out hx0 hx23)
  have HR : Hid (shN p.toNat q.toNat r.toNat x s = orF (shF p q r ((x : Int) % p) ((x : Int) / p % q) ((x : Int) / p / q % r)) (bitsN s)) := Lib.hid (by
    have hp : ((p.toNat : Nat) : Int) = p := Int.toNat_of_nonneg (by omega)
    have hq : ((q.toNat : Nat) : Int) = q := Int.toNat_of_nonneg (by omega)
    have hr : ((r.toNat : Nat) : Int) = r := Int.toNat_of_nonneg (by omega)
    have e : p.toNat * q.toNat * r.toNat = (p * q * r).toNat := by
      have : ((p.toNat * q.toNat * r.toNat : Nat) : Int) = p * q * r := by rw [Int.natCast_mul, Int.natCast_mul, hp, hq, hr]
      omega
    have := shN_orF (p := p.toNat) (q := q.toNat) (r := r.toNat) (x := x) (s := s) (by omega) (by omega) (by omega) (by omega) (by omega) (by rw [e]; exact hs)
    rwa [hp, hq, hr] at this)
  obtain ⟨N, HN⟩ : ∃ N, Hid (N = ((2 ^ (p * q * r).toNat : Nat) : Int) - 1) := ⟨_, Lib.hid rfl⟩
  obtain ⟨u, HU⟩ : ∃ u, Hid ((x : Int) % p = u) := ⟨_, Lib.hid rfl⟩
  obtain ⟨v, HV⟩ : ∃ u, Hid ((x : Int) / p % q = u) := ⟨_, Lib.hid rfl⟩
  obtain ⟨t, HT⟩ : ∃ u, Hid ((x : Int) / p / q % r = u) := ⟨_, Lib.hid rfl⟩
  have BU : 0 ≤ u ∧ u < p := by rw [← HU.out]; exact emod_b h1
  have BV : 0 ≤ v ∧ v < q := by rw [← HV.out]; exact emod_b h3
  have BT : 0 ≤ t ∧ t < r := by rw [← HT.out]; exact emod_b h5
  have v0 : 0 ≤ p * v := Int.mul_nonneg (by omega) BV.1
  have v1 : p * v < p * q := Int.mul_lt_mul_of_pos_left BV.2 (by omega)
  have t0 : 0 ≤ p * q * t := Int.mul_nonneg (by omega) BT.1
  have t1 : p * q * t < p * q * r := Int.mul_lt_mul_of_pos_left BT.2 (by omega)
  have d1 : (p * q * r).toNat % p.toNat = 0 := by
    have : (p * q * r) % p = 0 := by rw [Int.mul_assoc]; exact Int.mul_emod_right _ _
    have := Int.toNat_emod (x := p * q * r) (y := p) (by omega) (by omega)
    omega
  have d2 : (p * q * r).toNat % (p * q).toNat = 0 := by
    have : (p * q * r) % (p * q) = 0 := Int.mul_emod_right _ _
    have := Int.toNat_emod (x := p * q * r) (y := p * q) (by omega) (by omega)
    omega
  obtain ⟨D1, M1, Q1, ST1, A1, L1, C1, R1, S1, ⟨g1, g2⟩, gd1, ea1, ea2, ea3, ea4, ea5, ea6, ea7, ea8, ea9⟩ := rndF (p * q * r).toNat p u s N HN.out (by omega) (by omega) h1 d1 BU.1 BU.2 hs
  obtain ⟨D2, M2, Q2, ST2, A2, L2, C2, R2, S2, ⟨g3, g4⟩, gd2, eb1, eb2, eb3, eb4, eb5, eb6, eb7, eb8, eb9⟩ := rndF (p * q * r).toNat (p * q) (p * v) S1 N HN.out (by omega) (by omega) h7 d2 v0 v1 g2
  obtain ⟨D3, M3, Q3, ST3, A3, L3, C3, R3, S3, ⟨g5, g6⟩, gd3, ec1, ec2, ec3, ec4, ec5, ec6, ec7, ec8, ec9⟩ := rndF (p * q * r).toNat (p * q * r) (p * q * t) S2 N HN.out (by omega) (by omega) h9 (Nat.mod_self _) t0 t1 g4
  have HS3 : Hid (S3 = orF (shF p q r ((x : Int) % p) ((x : Int) / p % q) ((x : Int) / p / q % r)) (bitsN s)) := Lib.hid (by
    rw [← HR.out, g5, g3, g1]
    unfold shN
    have hp : ((p.toNat : Nat) : Int) = p := Int.toNat_of_nonneg (by omega)
    have hq : ((q.toNat : Nat) : Int) = q := Int.toNat_of_nonneg (by omega)
    have hr : ((r.toNat : Nat) : Int) = r := Int.toNat_of_nonneg (by omega)
    have f1 : p.toNat * q.toNat = (p * q).toNat := by
      have : ((p.toNat * q.toNat : Nat) : Int) = p * q := by rw [Int.natCast_mul, hp, hq]
      omega
    have f2 : p.toNat * q.toNat * r.toNat = (p * q * r).toNat := by
      have : ((p.toNat * q.toNat * r.toNat : Nat) : Int) = p * q * r := by rw [Int.natCast_mul, Int.natCast_mul, hp, hq, hr]
      omega
    have f3 : x % p.toNat = u.toNat := by
      have : ((x % p.toNat : Nat) : Int) = u := by rw [Int.natCast_emod, hp, HU.out]
      omega
    have f4 : p.toNat * (x / p.toNat % q.toNat) = (p * v).toNat := by
      have : ((p.toNat * (x / p.toNat % q.toNat) : Nat) : Int) = p * v := by rw [Int.natCast_mul, Int.natCast_emod, Int.natCast_ediv, hp, hq, HV.out]
      omega
    have f5 : p.toNat * q.toNat * (x / p.toNat / q.toNat % r.toNat) = (p * q * t).toNat := by
      have : ((p.toNat * q.toNat * (x / p.toNat / q.toNat % r.toNat) : Nat) : Int) = p * q * t := by rw [Int.natCast_mul, Int.natCast_mul, Int.natCast_emod, Int.natCast_ediv, Int.natCast_ediv, hp, hq, hr, HT.out]
      omega
    rw [f5, f4, f3, f2, f1])
  rw [← HS3.out]
  rw [HU.out, HV.out, HT.out] at IPL
  have n1 : D1 ≠ 0 := by omega
  have n2 : D2 ≠ 0 := by omega
  have n3 : D3 ≠ 0 := by omega
  clear g1 g2 g3 g4 g5 g6 d1 d2 hs
  go_enter Tryz.func65, Tryz.ntmps65
  go_wp2_with (go_at_call 70; refine (IPL.out _).mono ?_; rintro e w1 ⟨rfl, hb1⟩; have T1 := Lib.hid hb1; obtain ⟨c0, c1, c2, _, _, _⟩ := trip_cell (keepH hb1 (by simp) (heap_alloc_new w (.cells #[.int .i64 p, .int .i64 q, .int .i64 r] 44))))
  refine wp_loop_rounds 4 ?_
  rw [rounds_succ]; go_wp2
  go_region_held3 (fun W => W.cell? ⟨w.heap.size, 0, none⟩ = some (.int .i64 p) ∧ W.cell? ⟨w.heap.size, 1, none⟩ = some (.int .i64 q) ∧ W.cell? ⟨w.heap.size, 2, none⟩ = some (.int .i64 r)) (first | exact ⟨c0, c1, c2⟩ | exact ⟨d0, d1, d2⟩)
    (first | (go_at_call 32; refine (iFull _ p q r N HTR.out HN.out).mono ?_; rintro e w2 ⟨rfl, hb2⟩; have T2 := Lib.hid (T1.out.drew.trans (hb2.mono T1.out.drew.size)); obtain ⟨d0, d1, d2, _, _, _⟩ := trip_cell (keepH T2.out (by simp) (heap_alloc_new w (.cells #[.int .i64 p, .int .i64 q, .int .i64 r] 44)))))
  all_goals go_wp2
  go_region
  go_wp2
  rw [rounds_succ]; go_wp2
  go_region_held3 (fun W => W.cell? ⟨w.heap.size, 0, none⟩ = some (.int .i64 p) ∧ W.cell? ⟨w.heap.size, 1, none⟩ = some (.int .i64 q) ∧ W.cell? ⟨w.heap.size, 2, none⟩ = some (.int .i64 r)) (first | exact ⟨d0, d1, d2⟩ | exact ⟨e0, e1, e2⟩)
    (first | (go_at_call 32; refine (iFull _ p q r N HTR.out HN.out).mono ?_; rintro e w3 ⟨rfl, hb3⟩; have T3 := Lib.hid (T2.out.drew.drew.trans (hb3.mono T2.out.drew.drew.size)); obtain ⟨e0, e1, e2, _, _, _⟩ := trip_cell (keepH T3.out (by simp) (heap_alloc_new w (.cells #[.int .i64 p, .int .i64 q, .int .i64 r] 44)))))
  all_goals go_wp2
  go_region
  go_wp2
  rw [rounds_succ]; go_wp2
  go_region_held3 (fun W => W.cell? ⟨w.heap.size, 0, none⟩ = some (.int .i64 p) ∧ W.cell? ⟨w.heap.size, 1, none⟩ = some (.int .i64 q) ∧ W.cell? ⟨w.heap.size, 2, none⟩ = some (.int .i64 r)) (first | exact ⟨e0, e1, e2⟩ | exact ⟨f0, f1, f2⟩)
    (first | (go_at_call 32; refine (iFull _ p q r N HTR.out HN.out).mono ?_; rintro e w4 ⟨rfl, hb4⟩; have T4 := Lib.hid (T3.out.drew.drew.trans (hb4.mono T3.out.drew.drew.size)); obtain ⟨f0, f1, f2, _, _, _⟩ := trip_cell (keepH T4.out (by simp) (heap_alloc_new w (.cells #[.int .i64 p, .int .i64 q, .int .i64 r] 44)))))
  all_goals go_wp2
  go_region
  go_wp2
  rw [rounds_succ]; go_wp2
  go_ret
  exact ⟨rfl, (Joins.below_alloc1 w _).trans (T4.out.drew.mono (by simp))⟩
end Go.Proofs.YtfkleihnafeoeaaGreatDoor
