/- Plain mathematics of the four pairs: each decoder undoes its encoder. -/
import Derived.Test.YtlbijhfjlgafeaaDoorDecVarintI
import Derived.Test.YtlbijhfjlgafeaaDoorEncFixedLaw
import Derived.Test.YtlbijhfjlgafeaaDoorEncVarintLaw
import Derived.Test.YtlbijhfjlgafeaaDoorDecHexLaw
import Derived.Test.YtlbijhfjlgafeaaDoorParseS
namespace Go.Proofs.YtlbijhfjlgafeaaDoor
open Go.RowKit
theorem vint_len : ∀ (k n : Nat), 1 ≤ k → n < 128 ^ k → (vint n).length ≤ k
  | 0, _, h, _ => by omega
  | k + 1, n, _, h => by
    by_cases hs : n < 128
    · rw [vint_small n hs]; simp
    · rw [vint_step n hs, List.length_cons]
      have hk : 1 ≤ k := by
        rcases Nat.eq_zero_or_pos k with rfl | hk
        · simp at h; omega
        · exact hk
      have := vint_len k (n / 128) hk (by rw [Nat.pow_succ] at h; omega)
      omega
theorem vint_pos (n : Nat) : 1 ≤ (vint n).length := by
  by_cases hs : n < 128
  · rw [vint_small n hs]; simp
  · rw [vint_step n hs]; simp
theorem res_vint (n : Nat) (t : List UInt8) (h : n ≤ 562949953421311) : Res (vint n ++ t) n (vint n).length := by
  have h7 := vint_len 7 n (by omega) (by have : (128 : Nat) ^ 7 = 562949953421312 := by decide
                                         omega)
  have ht : (vint n ++ t).take (vint n).length = vint n := List.take_left
  exact Or.inr ⟨vint_pos n, h7, by simp, by rw [ht, val_vint], by rw [ht]; exact vint_is_canon n⟩
theorem big_cons (c : UInt8) (l : List UInt8) : big (c :: l) = (c.toNat : Int) * 256 ^ l.length + big l := by
  have aux : ∀ (l : List UInt8) (x : Int), l.foldl (fun n c => n * 256 + (c.toNat : Int)) x = x * 256 ^ l.length + big l := by
    intro l
    induction l with
    | nil => intro x; simp [big]
    | cons d l ih =>
      intro x
      have e1 : big (d :: l) = l.foldl (fun n c => n * 256 + (c.toNat : Int)) (0 * 256 + (d.toNat : Int)) := rfl
      rw [List.foldl_cons, ih, e1, ih, List.length_cons, Int.pow_succ]
      rw [Int.add_mul, Int.zero_mul, Int.zero_add, Int.mul_assoc, Int.mul_comm 256, Int.add_assoc]
  have := aux l (0 * 256 + (c.toNat : Int))
  simpa [big] using this
theorem big_bigB (N m : Nat) : big (bigB N m) = ((N % 256 ^ m : Nat) : Int) := by
  induction m with
  | zero => simp [bigB, big, Nat.mod_one]
  | succ m ih =>
    rw [bigB_succ, big_cons, ih, bigB_len, byteAt_val, Nat.pow_succ, Nat.mod_mul]
    unfold sh
    have hP : (256 : Int) ^ m = ((256 ^ m : Nat) : Int) := by rw [Int.natCast_pow]; rfl
    rw [hP]
    generalize 256 ^ m = P
    rw [Int.natCast_add, Int.natCast_mul, Int.natCast_emod (N / P) 256, Int.mul_comm, Int.add_comm]
    rfl
theorem big_back (N m : Nat) (h : sh N m = 0) : big (bigB N m) = (N : Int) := by
  rw [big_bigB]
  have hp : 0 < 256 ^ m := Nat.pow_pos (by decide)
  have : N < 256 ^ m := by
    unfold sh at h
    rcases Nat.lt_or_ge N (256 ^ m) with h1 | h1
    · exact h1
    · have := Nat.div_pos h1 hp; omega
  rw [Nat.mod_eq_of_lt this]
theorem bs_list (l : List UInt8) : (bs l).data.toList = l := by simp [bs]
theorem take_bigB (N m : Nat) (t : List UInt8) : (bs (bigB N m ++ t)).data.toList.take m = bigB N m := by
  rw [bs_list, List.take_append_of_le_length (by rw [bigB_len]; exact Nat.le_refl _), List.take_of_length_le (by rw [bigB_len]; exact Nat.le_refl _)]
theorem hexL_get : ∀ (t : List UInt8) (q : Nat), q < t.length → (hexL t).getD (2 * q) 0 = hexD ((t.getD q 0).toNat / 16) ∧ (hexL t).getD (2 * q + 1) 0 = hexD ((t.getD q 0).toNat % 16)
  | [], q, h => by simp at h
  | b :: t, 0, _ => by constructor <;> rfl
  | b :: t, q + 1, h => by
    have := hexL_get t q (by simpa using h)
    have e : hexL (b :: t) = hexD (b.toNat / 16) :: hexD (b.toNat % 16) :: hexL t := rfl
    rw [e, show 2 * (q + 1) = 2 * q + 1 + 1 by omega]
    exact this
theorem hexL_nib (t : List UInt8) (q : Nat) (h : q < t.length) : nib (hexL t) (2 * q) = (t.getD q 0).toNat / 16 ∧ nib (hexL t) (2 * q + 1) = (t.getD q 0).toNat % 16 := by
  obtain ⟨h1, h2⟩ := hexL_get t q h
  have hb := (t.getD q 0).toNat_lt
  unfold nib
  rw [h1, h2, hexV_hexD _ (by omega), hexV_hexD _ (by omega)]
  exact ⟨rfl, rfl⟩
theorem isHex_hexL (t : List UInt8) : IsHex (hexL t) := by
  refine ⟨by rw [hexL_len]; omega, fun i hi => ?_⟩
  rw [hexL_len] at hi
  obtain ⟨h1, h2⟩ := hexL_get t (i / 2) (by omega)
  have hb := (t.getD (i / 2) 0).toNat_lt
  by_cases hp : i % 2 = 0
  · rw [show i = 2 * (i / 2) by omega, h1, hexV_hexD _ (by omega)]; simp
  · rw [show i = 2 * (i / 2) + 1 by omega, h2, hexV_hexD _ (by omega)]; simp
theorem decL_hexL (t : List UInt8) : decL (hexL t) ((hexL t).length / 2) = t := by
  rw [hexL_len, Nat.mul_div_cancel_left _ (by decide : 0 < 2)]
  unfold decL
  apply List.ext_getElem
  · simp
  · intro q h1 h2
    obtain ⟨n1, n2⟩ := hexL_nib t q h2
    simp only [List.getElem_map, List.getElem_range, n1, n2]
    have e : t.getD q 0 = t[q] := by simp [List.getD, h2]
    rw [e]
    apply UInt8.toNat_inj.1
    have hb := t[q].toNat_lt
    rw [UInt8.toNat_ofNat']; omega
theorem hex_back {t : List UInt8} {W : Nat} {w w' : World} {e : Ending} (h : PostHex (hexL t) W w e w') : e = .returned (.tuple #[strV t, .bool true]) ∧ Below W w w' := by
  obtain ⟨hb, ⟨_, rfl⟩ | ⟨hn, _⟩⟩ := h
  · rw [decL_hexL]; exact ⟨rfl, hb⟩
  · exact absurd (isHex_hexL t) hn
theorem nDigits_le : ∀ (k u : Nat), 1 ≤ k → u < 10 ^ k → Lib.nDigits u ≤ k
  | 0, _, h, _ => by omega
  | k + 1, u, _, h => by
    by_cases hs : u < 10
    · rw [Lib.nDigits_small hs]; omega
    · rw [Lib.nDigits_big hs]
      have hk : 1 ≤ k := by
        rcases Nat.eq_zero_or_pos k with rfl | hk
        · simp at h; omega
        · exact hk
      have := nDigits_le k (u / 10) hk (by rw [Nat.pow_succ] at h; omega)
      omega
theorem acc_itoa (n : Int) : accB (Lib.itoa n) = decide (-1000000000 < n ∧ n < 1000000000) := by
  obtain ⟨h1, h2⟩ := itoa_shape n
  rw [acc_iff, h1, h2]
  have ha : (Lib.decDigits n.natAbs).all isD = true := List.all_eq_true.2 (dec_facts _).2
  have hp := Lib.nDigits_pos n.natAbs
  unfold pdB
  rw [ha, Lib.decDigits_length, decide_eq_true hp]
  simp only [Bool.true_and, Bool.and_true, beq_self_eq_true]
  rw [Bool.eq_iff_iff, decide_eq_true_iff, decide_eq_true_iff]
  have hpow : (10 : Nat) ^ 9 = 1000000000 := by decide
  constructor
  · intro h
    have := Nat.lt_of_lt_of_le (Lib.lt_pow_nDigits n.natAbs) (pow10_le _ 9 h)
    omega
  · intro h
    exact nDigits_le 9 n.natAbs (by omega) (by omega)
theorem res_itoa (n : Int) : resV (Lib.itoa n) = if accB (Lib.itoa n) then n else 0 := by
  unfold resV; rw [(itoa_shape n).1]
end Go.Proofs.YtlbijhfjlgafeaaDoor
