/- Merged: KnMore KnEn SubMath. -/
import Derived.Test.YtaacofbmbpkeoaaGreatDoorVosper
import Derived.Test.YtaacofbmbpkeoaaGreatDoorSumMath
import Derived.Test.YtaacofbmbpkeoaaGreatDoorMGAI
import Derived.Test.YtaacofbmbpkeoaaGreatDoorMGAK
namespace Go.Proofs.YtaacofbmbpkeoaaGreatDoor
section
variable {N : Nat} {ad : Nat → Nat → Nat} {ng : Nat → Nat} (G : Abel N ad ng)
include G
/-- What a subgroup keeps has a multiple of its size. -/
theorem lagr {H : Nat → Bool} (hadd : ∀ x y, x < N → y < N → H x = true → H y = true → H (ad x y) = true) (hneg : ∀ x, x < N → H x = true → H (ng x) = true) (h0 : H 0 = true) :
    ∀ (n : Nat) (C : Nat → Bool), cd N C ≤ n → (∀ z h, z < N → h < N → C z = true → H h = true → C (ad z h) = true) → cd N H ∣ cd N C
  | 0, C, hn, _ => by
    have : cd N C = 0 := by omega
    rw [this]
    exact Nat.dvd_zero _
  | n + 1, C, hn, hC => by
    rcases Nat.eq_zero_or_pos (cd N C) with g | g
    · rw [g]; exact Nat.dvd_zero _
    obtain ⟨x, hx, hCx⟩ := cd_ex g
    have sp := cd_split N C (fun z => H (ad z (ng x)))
    have e : cd N (fun z => C z && H (ad z (ng x))) = cd N H := by
      rw [← cd_shift G H (ng x)]
      refine cd_congr (fun z hz => ?_)
      cases hh : H (ad z (ng x)) with
      | false => simp
      | true =>
        have := hC x (ad z (ng x)) hx (G.lt _ _) hCx hh
        rw [G.comm, ab_forth G x hz] at this
        rw [this]
        rfl
    have hp := cd_pos G.pos h0
    have ih := lagr hadd hneg h0 n (fun z => C z && !H (ad z (ng x))) (by omega) (fun z h hz hh h1 h2 => by
      simp only [Bool.and_eq_true, Bool.not_eq_true'] at h1 ⊢
      refine ⟨hC z h hz hh h1.1 h2, ?_⟩
      cases g2 : H (ad (ad z h) (ng x)) with
      | false => rfl
      | true =>
        have h3 := hadd _ _ (G.lt _ _) (G.nlt _) g2 (hneg h hh h2)
        have e3 : ad (ad (ad z h) (ng x)) (ng h) = ad z (ng x) := by
          rw [G.assoc z h, G.comm h, ← G.assoc z, ab_back G h (G.lt _ _)]
        rw [e3, h1.2] at h3
        cases h3)
    rw [← sp, e]
    exact Nat.dvd_add (Nat.dvd_refl _) ih
theorem stb_dvd (C : Nat → Bool) : cd N (stb N ad C) ∣ N := by
  have h := lagr G (H := stb N ad C) (fun x y _ _ hx hy => stb_add G hx hy) (fun x _ hx => stb_neg G hx) (stb_zero G C) N (fun _ => true) (by rw [cd_full]; exact Nat.le_refl _) (fun _ _ _ _ _ _ => rfl)
  rw [cd_full] at h
  exact h
theorem stb_le {C : Nat → Bool} {x : Nat} (hx : x < N) (hC : C x = true) : cd N (stb N ad C) ≤ cd N C :=
  part_size G hx hC (fun y z hy _ h1 h2 => by rw [stb_iff.1 h2 y hy]; exact h1)
/-- What all keep is all. -/
theorem stb_all {C : Nat → Bool} (h : N ≤ cd N (stb N ad C)) {x : Nat} (hx : x < N) (hC : C x = true) : N ≤ cd N C := Nat.le_trans h (stb_le G hx hC)
/-- In a group of prime order each step reaches all. -/
theorem whole_prime (hP : ∀ k, k ∣ N → k = 1 ∨ k = N) : Whole N ad := fun d C hd h0 hC ⟨x, hx, hCx⟩ z hz => by
  have hs : stb N ad C d = true := by
    have same := cd_same (P := C) (Q := fun z => C (ad z d)) hC (by rw [cd_shift G C d]; exact Nat.le_refl _)
    exact stb_iff.2 (fun z hz => (same z hz).symm)
  have h2 : cd N (stb N ad C) ≠ 1 := fun e => h0 (cd_uniq (by omega) hd G.pos hs (stb_zero G C))
  have h3 : cd N (stb N ad C) = N := (hP _ (stb_dvd G C)).resolve_left h2
  have h4 := cd_same (P := C) (Q := fun _ => true) (fun _ _ _ => rfl) (by rw [cd_full]; exact stb_all G (by omega) hx hCx) z hz
  exact h4
/-- Cauchy's bound. -/
theorem cauchy {A B S : Nat → Bool} (hS : IsSum N ad A B S) (hA : 0 < cd N A) (hB : 0 < cd N B) {p : Nat} (hp : ∀ k, k ∣ N → 2 ≤ k → p ≤ k) : p ≤ cd N S ∨ cd N A + cd N B ≤ cd N S + 1 := by
  obtain ⟨a, ha, hA⟩ := cd_ex hA
  obtain ⟨b, hb, hB⟩ := cd_ex hB
  have k := kn_first G hS hb hB
  have hS0 : S (ad a b) = true := (hS _ (G.lt _ _)).2 ⟨a, b, ha, hb, hA, hB, rfl⟩
  have h1 := stb_le G (G.lt _ _) hS0
  by_cases g : 2 ≤ cd N (stb N ad S)
  · exact .inl (Nat.le_trans (hp _ (stb_dvd G S) g) h1)
  · exact .inr (by omega)
/-- Chowla's bound. -/
theorem chowla {A B S FA FB : Nat → Bool} (hS : IsSum N ad A B S) (hFA : IsSum N ad A (stb N ad S) FA) (hFB : IsSum N ad B (stb N ad S) FB)
    (hA : 0 < cd N A) (hB : B 0 = true) (ho : ∀ b, b < N → B b = true → b ≠ 0 → ∀ i j, i < j → j < N → stp ad b 0 i ≠ stp ad b 0 j) : N ≤ cd N S ∨ cd N A + cd N B ≤ cd N S + 1 := by
  obtain ⟨a, ha, hA⟩ := cd_ex hA
  have k := kneser G hS hFA hFB G.pos hB
  have hS0 : S (ad a 0) = true := (hS _ (G.lt _ _)).2 ⟨a, 0, ha, G.pos, hA, hB, rfl⟩
  by_cases hex : ∃ b, b < N ∧ B b = true ∧ b ≠ 0 ∧ stb N ad S b = true
  · obtain ⟨b, hb, hBb, hb0, hs⟩ := hex
    left
    have hstp : ∀ i, stp ad b 0 i < N := fun i => by
      cases i with
      | zero => exact G.pos
      | succ i => exact G.lt _ _
    have hin : ∀ i, stb N ad S (stp ad b 0 i) = true := fun i => by
      induction i with
      | zero => exact stb_zero G S
      | succ i ih => exact stb_add G ih hs
    refine stb_all G ?_ (G.lt _ _) hS0
    have e := cd_steps hstp N (ho b hb hBb hb0)
    rw [← e]
    refine Nat.le_trans (cd_le (Q := stb N ad S) (fun z _ h => ?_)) (by rw [e]; exact Nat.le_refl _)
    obtain ⟨i, _, h⟩ := List.any_eq_true.1 h
    rw [← beq_iff_eq.1 h]
    exact hin i
  · right
    have c1 : cd N A ≤ cd N FA := cd_le (fun x hx h => (hFA x hx).2 ⟨x, 0, hx, G.pos, h, stb_zero G S, G.zero x hx⟩)
    have c2 : cd N (fun z => B z || stb N ad S z) ≤ cd N FB := cd_le (fun x hx h => by
      rw [Bool.or_eq_true] at h
      rcases h with h | h
      · exact (hFB x hx).2 ⟨x, 0, hx, G.pos, h, stb_zero G S, G.zero x hx⟩
      · exact (hFB x hx).2 ⟨0, x, G.pos, hx, hB, h, by rw [G.comm]; exact G.zero x hx⟩)
    have c3 := cd_or N B (stb N ad S)
    have c4 : cd N (fun z => B z && stb N ad S z) ≤ 1 := cd_le_one (fun x y hx hy h1 h2 => by
      rw [Bool.and_eq_true] at h1 h2
      have ex : x = 0 := Classical.byContradiction (fun h => hex ⟨x, hx, h1.1, h, h1.2⟩)
      have ey : y = 0 := Classical.byContradiction (fun h => hex ⟨y, hy, h2.1, h, h2.2⟩)
      rw [ex, ey])
    have e1 : cd N (fun i => B i || stb N ad S i) = cd N (fun z => B z || stb N ad S z) := rfl
    omega
end
/-- The bound of Cauchy and Schwarz, by induction: twice a product is at most the sum of the squares. -/
theorem two_mul_le (x y : Nat) : 2 * (x * y) ≤ x * x + y * y := by
  rcases Nat.le_total x y with h | h
  · obtain ⟨k, rfl⟩ : ∃ k, y = x + k := ⟨y - x, by omega⟩
    have e : (x + k) * (x + k) = x * x + 2 * (x * k) + k * k := by rw [Nat.add_mul, Nat.mul_add, Nat.mul_add, Nat.mul_comm k x]; omega
    rw [e, Nat.mul_add]
    omega
  · obtain ⟨k, rfl⟩ : ∃ k, x = y + k := ⟨x - y, by omega⟩
    have e : (y + k) * (y + k) = y * y + 2 * (y * k) + k * k := by rw [Nat.add_mul, Nat.mul_add, Nat.mul_add, Nat.mul_comm k y]; omega
    rw [e, Nat.add_mul, Nat.mul_comm k y]
    omega
theorem schwarz (f : Nat → Nat) : ∀ n, sm f n * sm f n ≤ sm (fun i => (decide (0 < f i)).toNat) n * sm (fun i => f i * f i) n ∧ ∀ v, 2 * (v * sm f n) ≤ sm (fun i => (decide (0 < f i)).toNat) n * (v * v) + sm (fun i => f i * f i) n
  | 0 => ⟨Nat.le_refl _, fun v => by simp [sm]⟩
  | n + 1 => by
    obtain ⟨h1, h2⟩ := schwarz f n
    simp only [sm]
    generalize sm f n = s at *
    generalize sm (fun i => (decide (0 < f i)).toNat) n = k at *
    generalize sm (fun i => f i * f i) n = q at *
    rcases Nat.eq_zero_or_pos (f n) with e | e
    · rw [e]
      simp only [Nat.lt_irrefl, decide_false, Bool.toNat_false, Nat.add_zero, Nat.mul_zero]
      exact ⟨h1, h2⟩
    · have ed : (decide (0 < f n)).toNat = 1 := by rw [decide_eq_true e]; rfl
      rw [ed]
      generalize f n = x at *
      have hx := h2 x
      refine ⟨?_, fun v => ?_⟩
      · have e1 : (s + x) * (s + x) = s * s + 2 * (x * s) + x * x := by rw [Nat.add_mul, Nat.mul_add, Nat.mul_add, Nat.mul_comm s x]; omega
        have e2 : (k + 1) * (q + x * x) = k * q + k * (x * x) + q + x * x := by rw [Nat.add_mul, Nat.mul_add, Nat.one_mul]; omega
        rw [e1, e2]
        omega
      · have e1 : 2 * (v * (s + x)) = 2 * (v * s) + 2 * (v * x) := by rw [Nat.mul_add, Nat.mul_add]
        have e2 : (k + 1) * (v * v) = k * (v * v) + v * v := by rw [Nat.add_mul, Nat.one_mul]
        have := h2 v
        have := two_mul_le v x
        rw [e1, e2]
        omega
end Go.Proofs.YtaacofbmbpkeoaaGreatDoor

namespace Go.Proofs.YtaacofbmbpkeoaaGreatDoor
theorem sm_mulr (f : Nat → Nat) (c : Nat) (n : Nat) : sm f n * c = sm (fun i => f i * c) n := by
  rw [Nat.mul_comm, ← sm_mul]
  exact sm_congr (fun i _ => Nat.mul_comm _ _)
theorem sm_prod (f g : Nat → Nat) (n : Nat) : sm f n * sm g n = sm (fun i => sm (fun j => f i * g j) n) n := by
  rw [sm_mulr]
  exact sm_congr (fun i _ => (sm_mul (f i) g n).symm)
/-- How many pairs of A and B have the sum s. -/
def cor (N : Nat) (ad : Nat → Nat → Nat) (ng : Nat → Nat) (A B : Nat → Bool) (s : Nat) : Nat := sm (fun x => (A x).toNat * (B (ad s (ng x))).toNat) N
section
variable {N : Nat} {ad : Nat → Nat → Nat} {ng : Nat → Nat} (G : Abel N ad ng)
include G
theorem sm_shift (f : Nat → Nat) (t : Nat) : sm (fun z => f (ad z t)) N = sm f N := by
  have e1 : sm (fun z => f (ad z t)) N = sm (fun z => sm (fun y => if ad z t = y then f y else 0) N) N := sm_congr (fun z _ => by
    rw [sm_one, if_pos (G.lt z t)])
  rw [e1, sm_swap]
  refine sm_congr (fun y hy => ?_)
  have e2 : sm (fun z => if ad z t = y then f y else 0) N = sm (fun z => if ad y (ng t) = z then (fun _ => f y) z else 0) N := sm_congr (fun z hz => by
    by_cases h : ad z t = y
    · rw [if_pos h, if_pos ((ab_move G hz hy).1 h)]
    · rw [if_neg h, if_neg (fun h2 => h ((ab_move G hz hy).2 h2))])
  rw [e2, sm_one, if_pos (G.lt _ _)]
theorem sm_neg (f : Nat → Nat) : sm (fun z => f (ng z)) N = sm f N := by
  have e1 : sm (fun z => f (ng z)) N = sm (fun z => sm (fun y => if ng z = y then f y else 0) N) N := sm_congr (fun z _ => by
    rw [sm_one, if_pos (G.nlt z)])
  rw [e1, sm_swap]
  refine sm_congr (fun y hy => ?_)
  have e2 : sm (fun z => if ng z = y then f y else 0) N = sm (fun z => if ng y = z then (fun _ => f y) z else 0) N := sm_congr (fun z hz => by
    by_cases h : ng z = y
    · rw [if_pos h, if_pos (by rw [← h, ng_ng G hz])]
    · rw [if_neg h, if_neg (fun h2 => h (by rw [← h2, ng_ng G hy]))])
  rw [e2, sm_one, if_pos (G.nlt _)]
/-- The counts add up to the product of the sizes. -/
theorem cor_total (A B : Nat → Bool) : sm (cor N ad ng A B) N = cd N A * cd N B := by
  unfold cor
  rw [sm_swap]
  have e : ∀ x, sm (fun s => (A x).toNat * (B (ad s (ng x))).toNat) N = (A x).toNat * cd N B := fun x => by
    rw [sm_mul, ← cd_shift G B (ng x)]
    rfl
  rw [sm_congr (fun x _ => e x), ← sm_mulr]
  rfl
theorem diff_back (x i : Nat) (hx : x < N) : ng (ad i (ng x)) = ad x (ng i) := by
  rw [ng_ad G, ng_ng G hx, G.comm]
theorem diff_twice {x y : Nat} (hy : y < N) : ad x (ng (ad x (ng y))) = y := by
  rw [ng_ad G, ng_ng G hy, ← G.assoc, G.neg, G.comm, G.zero y hy]
/-- The counts of differences. -/
def corK (N : Nat) (ad : Nat → Nat → Nat) (B : Nat → Bool) (d : Nat) : Nat := sm (fun y => (B y).toNat * (B (ad y d)).toNat) N
theorem cor_diff (B : Nat → Bool) (i : Nat) : cor N ad ng B (fun z => B (ng z)) i = corK N ad B i := by
  unfold cor corK
  rw [← sm_shift G (fun x => (B x).toNat * (B (ng (ad i (ng x)))).toNat) i]
  refine sm_congr (fun y hy => ?_)
  show (B (ad y i)).toNat * (B (ng (ad i (ng (ad y i))))).toNat = _
  rw [diff_back G _ _ (G.lt _ _), ab_back G i hy, Nat.mul_comm]
/-- Pairs with one sum are as many as pairs with one difference. -/
theorem cor_sq (A B : Nat → Bool) : sm (fun s => cor N ad ng A B s * cor N ad ng A B s) N = sm (fun i => cor N ad ng A (fun z => A (ng z)) i * cor N ad ng B (fun z => B (ng z)) i) N := by
  have mid1 : sm (fun s => cor N ad ng A B s * cor N ad ng A B s) N = sm (fun x => sm (fun y => (A x).toNat * (A y).toNat * corK N ad B (ad x (ng y))) N) N := by
    have e1 : ∀ s, cor N ad ng A B s * cor N ad ng A B s = sm (fun x => sm (fun y => ((A x).toNat * (B (ad s (ng x))).toNat) * ((A y).toNat * (B (ad s (ng y))).toNat)) N) N := fun s => sm_prod _ _ N
    rw [sm_congr (fun s _ => e1 s), sm_swap]
    refine sm_congr (fun x _ => ?_)
    rw [sm_swap]
    refine sm_congr (fun y _ => ?_)
    have e2 : ∀ s, ((A x).toNat * (B (ad s (ng x))).toNat) * ((A y).toNat * (B (ad s (ng y))).toNat) = (A x).toNat * (A y).toNat * ((B (ad s (ng x))).toNat * (B (ad s (ng y))).toNat) := fun s => Nat.mul_mul_mul_comm _ _ _ _
    rw [sm_congr (fun s _ => e2 s), sm_mul]
    congr 1
    unfold corK
    rw [← sm_shift G (fun s => (B (ad s (ng x))).toNat * (B (ad s (ng y))).toNat) x]
    refine sm_congr (fun z hz => ?_)
    show (B (ad (ad z x) (ng x))).toNat * (B (ad (ad z x) (ng y))).toNat = _
    rw [ab_back G x hz, G.assoc]
  have mid2 : sm (fun i => cor N ad ng A (fun z => A (ng z)) i * cor N ad ng B (fun z => B (ng z)) i) N = sm (fun x => sm (fun y => (A x).toNat * (A y).toNat * corK N ad B (ad x (ng y))) N) N := by
    have e1 : ∀ i, i < N → cor N ad ng A (fun z => A (ng z)) i * cor N ad ng B (fun z => B (ng z)) i = sm (fun x => (A x).toNat * (A (ad x (ng i))).toNat * corK N ad B i) N := fun i _ => by
      rw [cor_diff G B i]
      unfold cor
      rw [sm_mulr]
      refine sm_congr (fun x hx => ?_)
      show (A x).toNat * (A (ng (ad i (ng x)))).toNat * _ = _
      rw [diff_back G x i hx]
    rw [sm_congr e1, sm_swap]
    refine sm_congr (fun x _ => ?_)
    rw [← sm_shift G (fun i => (A x).toNat * (A (ad x (ng i))).toNat * corK N ad B i) x, ← sm_neg G]
    refine sm_congr (fun y hy => ?_)
    show (A x).toNat * (A (ad x (ng (ad (ng y) x)))).toNat * corK N ad B (ad (ng y) x) = _
    rw [G.comm (ng y) x, diff_twice G hy]
  rw [mid1, mid2]
end
end Go.Proofs.YtaacofbmbpkeoaaGreatDoor

namespace Go.Proofs.YtaacofbmbpkeoaaGreatDoor
/-- Every element of the first is one of the second. -/
def Part (s t : Nat) : Prop := ∀ k, s.testBit k = true → t.testBit k = true
theorem Part.same {s t : Nat} (h : Part s t) (g : Part t s) : s = t := bits_same fun i => ⟨h i, g i⟩
/-- s has 0, and a's elements do not lead out of it. -/
def Keeps (l : List Int) (a s : Nat) : Prop := s.testBit 0 = true ∧ ∀ x y : Nat, a.testBit x = true → s.testBit y = true → s.testBit (addN l (y : Int) (x : Int)).toNat = true
/-- s is what a generates. -/
structure IsClo (l : List Int) (a s : Nat) : Prop where
  lt : s < 2 ^ (prodI l).toNat
  keeps : Keeps l a s
  least : ∀ t, Keeps l a t → Part s t
theorem IsClo.one {l : List Int} {a s t : Nat} (h : IsClo l a s) (g : IsClo l a t) : s = t := (h.least t g.keeps).same (g.least s h.keeps)
/-- What stands while it is being made. -/
structure CloInv (l : List Int) (a s : Nat) : Prop where
  lt : s < 2 ^ (prodI l).toNat
  zero : s.testBit 0 = true
  least : ∀ t, Keeps l a t → Part s t
theorem cloInv_one {l : List Int} (hg : grpB l = true) (a : Nat) : CloInv l a 1 where
  lt := by
    have := (ords_grp hg).prod.1
    exact Nat.one_lt_two_pow (by omega)
  zero := rfl
  least := fun t h k hk => by
    cases k with
    | zero => exact h.1
    | succ k => rw [Nat.testBit_succ] at hk; simp at hk
theorem cloInv_step {l : List Int} (hg : grpB l = true) {a s : Nat} (ha : a < 2 ^ 24) (h : CloInv l a s) : CloInv l a (s ||| sumN l s a) where
  lt := Nat.or_lt_two_pow h.lt (sumN_lt hg s a)
  zero := by rw [Nat.testBit_or, h.zero]; rfl
  least := fun t ht k hk => by
    rw [Nat.testBit_or] at hk
    rcases Bool.or_eq_true_iff.1 hk with h1 | h1
    · exact h.least t ht k h1
    · obtain ⟨x, y, hx, hy, hz⟩ := (sumN_bit l (grp_pow hg h.lt) ha k).1 h1
      rw [← hz]; exact ht.2 x y hx (h.least t ht y hy)
theorem cloInv_end {l : List Int} (hg : grpB l = true) {a s : Nat} (ha : a < 2 ^ 24) (h : CloInv l a s) (he : s ||| sumN l s a = s) : IsClo l a s where
  lt := h.lt
  keeps := ⟨h.zero, fun x y hx hy => by
    rw [← he, Nat.testBit_or]
    exact Bool.or_eq_true_iff.2 (.inr ((sumN_bit l (grp_pow hg h.lt) ha _).2 ⟨x, y, hx, hy, rfl⟩))⟩
  least := h.least
theorem or_grow {s v : Nat} (h : s ||| v ≠ s) : s < s ||| v := by
  have : s ≤ s ||| v := Nat.left_le_or
  omega
theorem clo_from {l : List Int} (hg : grpB l = true) {a : Nat} (ha : a < 2 ^ 24) : ∀ (k s : Nat), 2 ^ 24 - s ≤ k → CloInv l a s → ∃ c, IsClo l a c
  | 0, s, hk, h => absurd (grp_pow hg h.lt) (by omega)
  | k + 1, s, hk, h => by
    by_cases he : s ||| sumN l s a = s
    · exact ⟨s, cloInv_end hg ha h he⟩
    · have h1 := or_grow he
      have h2 := cloInv_step hg ha h
      exact clo_from hg ha k _ (by omega) h2
theorem clo_ex {l : List Int} (hg : grpB l = true) {a : Nat} (ha : a < 2 ^ 24) : ∃ c, IsClo l a c := clo_from hg ha (2 ^ 24) 1 (by omega) (cloInv_one hg a)
theorem el_of {l : List Int} (hg : grpB l = true) {s k : Nat} (hs : s < 2 ^ (prodI l).toNat) (h : s.testBit k = true) : (k : Int) < prodI l := by
  have hp := (ords_grp hg).prod.1
  by_cases hk : (prodI l).toNat ≤ k
  · rw [bit_no hs k hk] at h; cases h
  · omega
theorem nat_add {l : List Int} (h : Ords l) (x y : Int) : (((addN l x y).toNat : Nat) : Int) = addN l x y := Int.toNat_of_nonneg (addN_in h x y).1
theorem nat_neg {l : List Int} (h : Ords l) (x : Int) : (((negN l x).toNat : Nat) : Int) = negN l x := Int.toNat_of_nonneg (negN_in h x).1
theorem zero_add' {l : List Int} (hg : grpB l = true) {x : Nat} (hx : (x : Int) < prodI l) : (addN l ((0 : Nat) : Int) (x : Int)).toNat = x := by
  rw [addN_comm, show (((0 : Nat) : Nat) : Int) = 0 from rfl, addN_zero (ords_grp hg) (by omega) hx]; simp
/-- What a generates holds a. -/
theorem IsClo.holds {l : List Int} (hg : grpB l = true) {a c : Nat} (ha : a < 2 ^ (prodI l).toNat) (h : IsClo l a c) : Part a c := fun x hx => by
  have := h.keeps.2 x 0 hx h.keeps.1
  rwa [zero_add' hg (el_of hg ha hx)] at this
/-- A subgroup: with 0, and its own sums. -/
def IsSg (l : List Int) (s : Nat) : Prop := s < 2 ^ (prodI l).toNat ∧ Keeps l s s
theorem IsClo.self {l : List Int} (hg : grpB l = true) {a c : Nat} (ha : a < 2 ^ (prodI l).toNat) (h : IsClo l a c) : c = a ↔ IsSg l a :=
  ⟨fun e => by subst e; exact ⟨ha, h.keeps⟩, fun s => (h.least a s.2).same (h.holds hg ha)⟩
/-- What a generates is a subgroup. -/
theorem IsClo.sg {l : List Int} (hg : grpB l = true) {a c : Nat} (h : IsClo l a c) : IsSg l c := by
  refine ⟨h.lt, h.keeps.1, fun x y hx hy => ?_⟩
  -- the elements x of c that lead into c from everywhere in c
  have hO := ords_grp hg
  have key : ∀ (k : Nat), c.testBit k = true → ∀ y, c.testBit y = true → c.testBit (addN l (y : Int) (k : Int)).toNat = true := by
    let t := orF (fun x : Nat => (x : Int)) ((bitsN c).filter fun x => (bitsN c).all fun y => c.testBit (addN l (y : Int) (x : Int)).toNat)
    have c24 := grp_pow hg h.lt
    have ht : ∀ k, t.testBit k = true ↔ c.testBit k = true ∧ ∀ y, c.testBit y = true → c.testBit (addN l (y : Int) (k : Int)).toNat = true := fun k => by
      show (orF _ _).testBit k = true ↔ _
      rw [orF_bit]
      constructor
      · rintro ⟨x, hx, e⟩
        rw [Int.toNat_natCast] at e
        subst e
        rw [List.mem_filter] at hx
        refine ⟨(mem_bits c24 _).1 hx.1, fun y hy => ?_⟩
        have := List.all_eq_true.1 hx.2 y ((mem_bits c24 y).2 hy)
        simpa using this
      · rintro ⟨h1, h2⟩
        refine ⟨k, List.mem_filter.2 ⟨(mem_bits c24 k).2 h1, List.all_eq_true.2 fun y hy => h2 y ((mem_bits c24 y).1 hy)⟩, by simp⟩
    have hk : Keeps l a t := by
      refine ⟨(ht 0).2 ⟨h.keeps.1, fun y hy => ?_⟩, fun x y hx hy => (ht _).2 ⟨h.keeps.2 x y hx ((ht y).1 hy).1, fun z hz => ?_⟩⟩
      · rw [show (((0 : Nat) : Nat) : Int) = 0 from rfl, addN_zero hO (by omega) (el_of hg h.lt hy)]; simpa using hy
      · rw [nat_add hO, ← addN_assoc hO, ← nat_add hO (z : Int) (y : Int)]
        exact h.keeps.2 x _ hx (((ht y).1 hy).2 z hz)
    exact fun k hk' => ((ht k).1 (h.least t hk k hk')).2
  exact key x hx y hy
end Go.Proofs.YtaacofbmbpkeoaaGreatDoor
