/- From Kneser's theorem: Lagrange's, the bounds of Cauchy and Davenport and of Chowla, and the bound of Cauchy and Schwarz. Plain mathematics. -/
import Derived.Test.YtfkleihnafeoeaaGreatDoorVosper
namespace Go.Proofs.YtfkleihnafeoeaaGreatDoor
section
variable {N : Nat} {ad : Nat → Nat → Nat} {ng : Nat → Nat} (G : Abel N ad ng)
include G
/-- What a subgroup keeps has a multiple of its size. -/
theorem lagr {H : Nat → Bool} (hadd : ∀ x y, x < N → y < N → H x = true → H y = true → H (ad x y) = true) (hneg : ∀ x, x < N → H x = true → H (ng x) = true) (h0 : H 0 = true) :
    ∀ (n : Nat) (C : Nat → Bool), cd N C ≤ n → (∀ z h, z < N → h < N → C z = true → H h = true → C (ad z h) = true) → cd N H ∣ cd N C
  | 0, C, hn, _ => by
    have : cd N C = 0 := by omega
    rw [this]
    exact Nat.dvd_zero _
  | n + 1, C, hn, hC => by
    rcases Nat.eq_zero_or_pos (cd N C) with g | g
    · rw [g]; exact Nat.dvd_zero _
    obtain ⟨x, hx, hCx⟩ := cd_ex g
    have sp := cd_split N C (fun z => H (ad z (ng x)))
    have e : cd N (fun z => C z && H (ad z (ng x))) = cd N H := by
      rw [← cd_shift G H (ng x)]
      refine cd_congr (fun z hz => ?_)
      cases hh : H (ad z (ng x)) with
      | false => simp
      | true =>
        have := hC x (ad z (ng x)) hx (G.lt _ _) hCx hh
        rw [G.comm, ab_forth G x hz] at this
        rw [this]
        rfl
    have hp := cd_pos G.pos h0
    have ih := lagr hadd hneg h0 n (fun z => C z && !H (ad z (ng x))) (by omega) (fun z h hz hh h1 h2 => by
      simp only [Bool.and_eq_true, Bool.not_eq_true'] at h1 ⊢
      refine ⟨hC z h hz hh h1.1 h2, ?_⟩
      cases g2 : H (ad (ad z h) (ng x)) with
      | false => rfl
      | true =>
        have h3 := hadd _ _ (G.lt _ _) (G.nlt _) g2 (hneg h hh h2)
        have e3 : ad (ad (ad z h) (ng x)) (ng h) = ad z (ng x) := by
          rw [G.assoc z h, G.comm h, ← G.assoc z, ab_back G h (G.lt _ _)]
        rw [e3, h1.2] at h3
        cases h3)
    rw [← sp, e]
    exact Nat.dvd_add (Nat.dvd_refl _) ih
theorem stb_dvd (C : Nat → Bool) : cd N (stb N ad C) ∣ N := by
  have h := lagr G (H := stb N ad C) (fun x y _ _ hx hy => stb_add G hx hy) (fun x _ hx => stb_neg G hx) (stb_zero G C) N (fun _ => true) (by rw [cd_full]; exact Nat.le_refl _) (fun _ _ _ _ _ _ => rfl)
  rw [cd_full] at h
  exact h
theorem stb_le {C : Nat → Bool} {x : Nat} (hx : x < N) (hC : C x = true) : cd N (stb N ad C) ≤ cd N C :=
  part_size G hx hC (fun y z hy _ h1 h2 => by rw [stb_iff.1 h2 y hy]; exact h1)
/-- What all keep is all. -/
theorem stb_all {C : Nat → Bool} (h : N ≤ cd N (stb N ad C)) {x : Nat} (hx : x < N) (hC : C x = true) : N ≤ cd N C := Nat.le_trans h (stb_le G hx hC)
/-- In a group of prime order each step reaches all. -/
theorem whole_prime (hP : ∀ k, k ∣ N → k = 1 ∨ k = N) : Whole N ad := fun d C hd h0 hC ⟨x, hx, hCx⟩ z hz => by
  have hs : stb N ad C d = true := by
    have same := cd_same (P := C) (Q := fun z => C (ad z d)) hC (by rw [cd_shift G C d]; exact Nat.le_refl _)
    exact stb_iff.2 (fun z hz => (same z hz).symm)
  have h2 : cd N (stb N ad C) ≠ 1 := fun e => h0 (cd_uniq (by omega) hd G.pos hs (stb_zero G C))
  have h3 : cd N (stb N ad C) = N := (hP _ (stb_dvd G C)).resolve_left h2
  have h4 := cd_same (P := C) (Q := fun _ => true) (fun _ _ _ => rfl) (by rw [cd_full]; exact stb_all G (by omega) hx hCx) z hz
  exact h4
/-- Cauchy's bound. -/
theorem cauchy {A B S : Nat → Bool} (hS : IsSum N ad A B S) (hA : 0 < cd N A) (hB : 0 < cd N B) {p : Nat} (hp : ∀ k, k ∣ N → 2 ≤ k → p ≤ k) : p ≤ cd N S ∨ cd N A + cd N B ≤ cd N S + 1 := by
  obtain ⟨a, ha, hA⟩ := cd_ex hA
  obtain ⟨b, hb, hB⟩ := cd_ex hB
  have k := kn_first G hS hb hB
  have hS0 : S (ad a b) = true := (hS _ (G.lt _ _)).2 ⟨a, b, ha, hb, hA, hB, rfl⟩
  have h1 := stb_le G (G.lt _ _) hS0
  by_cases g : 2 ≤ cd N (stb N ad S)
  · exact .inl (Nat.le_trans (hp _ (stb_dvd G S) g) h1)
  · exact .inr (by omega)
/-- Chowla's bound. -/
theorem chowla {A B S FA FB : Nat → Bool} (hS : IsSum N ad A B S) (hFA : IsSum N ad A (stb N ad S) FA) (hFB : IsSum N ad B (stb N ad S) FB)
    (hA : 0 < cd N A) (hB : B 0 = true) (ho : ∀ b, b < N → B b = true → b ≠ 0 → ∀ i j, i < j → j < N → stp ad b 0 i ≠ stp ad b 0 j) : N ≤ cd N S ∨ cd N A + cd N B ≤ cd N S + 1 := by
  obtain ⟨a, ha, hA⟩ := cd_ex hA
  have k := kneser G hS hFA hFB G.pos hB
  have hS0 : S (ad a 0) = true := (hS _ (G.lt _ _)).2 ⟨a, 0, ha, G.pos, hA, hB, rfl⟩
  by_cases hex : ∃ b, b < N ∧ B b = true ∧ b ≠ 0 ∧ stb N ad S b = true
  · obtain ⟨b, hb, hBb, hb0, hs⟩ := hex
    left
    have hstp : ∀ i, stp ad b 0 i < N := fun i => by
      cases i with
      | zero => exact G.pos
      | succ i => exact G.lt _ _
    have hin : ∀ i, stb N ad S (stp ad b 0 i) = true := fun i => by
      induction i with
      | zero => exact stb_zero G S
      | succ i ih => exact stb_add G ih hs
    refine stb_all G ?_ (G.lt _ _) hS0
    have e := cd_steps hstp N (ho b hb hBb hb0)
    rw [← e]
    refine Nat.le_trans (cd_le (Q := stb N ad S) (fun z _ h => ?_)) (by rw [e]; exact Nat.le_refl _)
    obtain ⟨i, _, h⟩ := List.any_eq_true.1 h
    rw [← beq_iff_eq.1 h]
    exact hin i
  · right
    have c1 : cd N A ≤ cd N FA := cd_le (fun x hx h => (hFA x hx).2 ⟨x, 0, hx, G.pos, h, stb_zero G S, G.zero x hx⟩)
    have c2 : cd N (fun z => B z || stb N ad S z) ≤ cd N FB := cd_le (fun x hx h => by
      rw [Bool.or_eq_true] at h
      rcases h with h | h
      · exact (hFB x hx).2 ⟨x, 0, hx, G.pos, h, stb_zero G S, G.zero x hx⟩
      · exact (hFB x hx).2 ⟨0, x, G.pos, hx, hB, h, by rw [G.comm]; exact G.zero x hx⟩)
    have c3 := cd_or N B (stb N ad S)
    have c4 : cd N (fun z => B z && stb N ad S z) ≤ 1 := cd_le_one (fun x y hx hy h1 h2 => by
      rw [Bool.and_eq_true] at h1 h2
      have ex : x = 0 := Classical.byContradiction (fun h => hex ⟨x, hx, h1.1, h, h1.2⟩)
      have ey : y = 0 := Classical.byContradiction (fun h => hex ⟨y, hy, h2.1, h, h2.2⟩)
      rw [ex, ey])
    have e1 : cd N (fun i => B i || stb N ad S i) = cd N (fun z => B z || stb N ad S z) := rfl
    omega
end
/-- The bound of Cauchy and Schwarz, by induction: twice a product is at most the sum of the squares. -/
theorem two_mul_le (x y : Nat) : 2 * (x * y) ≤ x * x + y * y := by
  rcases Nat.le_total x y with h | h
  · obtain ⟨k, rfl⟩ : ∃ k, y = x + k := ⟨y - x, by omega⟩
    have e : (x + k) * (x + k) = x * x + 2 * (x * k) + k * k := by rw [Nat.add_mul, Nat.mul_add, Nat.mul_add, Nat.mul_comm k x]; omega
    rw [e, Nat.mul_add]
    omega
  · obtain ⟨k, rfl⟩ : ∃ k, x = y + k := ⟨x - y, by omega⟩
    have e : (y + k) * (y + k) = y * y + 2 * (y * k) + k * k := by rw [Nat.add_mul, Nat.mul_add, Nat.mul_add, Nat.mul_comm k y]; omega
    rw [e, Nat.add_mul, Nat.mul_comm k y]
    omega
theorem schwarz (f : Nat → Nat) : ∀ n, sm f n * sm f n ≤ sm (fun i => (decide (0 < f i)).toNat) n * sm (fun i => f i * f i) n ∧ ∀ v, 2 * (v * sm f n) ≤ sm (fun i => (decide (0 < f i)).toNat) n * (v * v) + sm (fun i => f i * f i) n
  | 0 => ⟨Nat.le_refl _, fun v => by simp [sm]⟩
  | n + 1 => by
    obtain ⟨h1, h2⟩ := schwarz f n
    simp only [sm]
    generalize sm f n = s at *
    generalize sm (fun i => (decide (0 < f i)).toNat) n = k at *
    generalize sm (fun i => f i * f i) n = q at *
    rcases Nat.eq_zero_or_pos (f n) with e | e
    · rw [e]
      simp only [Nat.lt_irrefl, decide_false, Bool.toNat_false, Nat.add_zero, Nat.mul_zero]
      exact ⟨h1, h2⟩
    · have ed : (decide (0 < f n)).toNat = 1 := by rw [decide_eq_true e]; rfl
      rw [ed]
      generalize f n = x at *
      have hx := h2 x
      refine ⟨?_, fun v => ?_⟩
      · have e1 : (s + x) * (s + x) = s * s + 2 * (x * s) + x * x := by rw [Nat.add_mul, Nat.mul_add, Nat.mul_add, Nat.mul_comm s x]; omega
        have e2 : (k + 1) * (q + x * x) = k * q + k * (x * x) + q + x * x := by rw [Nat.add_mul, Nat.mul_add, Nat.one_mul]; omega
        rw [e1, e2]
        omega
      · have e1 : 2 * (v * (s + x)) = 2 * (v * s) + 2 * (v * x) := by rw [Nat.mul_add, Nat.mul_add]
        have e2 : (k + 1) * (v * v) = k * (v * v) + v * v := by rw [Nat.add_mul, Nat.one_mul]
        have := h2 v
        have := two_mul_le v x
        rw [e1, e2]
        omega
end Go.Proofs.YtfkleihnafeoeaaGreatDoor
