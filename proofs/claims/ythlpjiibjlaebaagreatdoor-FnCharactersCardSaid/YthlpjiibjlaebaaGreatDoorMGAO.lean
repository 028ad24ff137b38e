/- Merged: ZeroM PolMath. -/
import Derived.Test.YthlpjiibjlaebaaGreatDoorZero
import Derived.Test.YthlpjiibjlaebaaGreatDoorChaSpec3
namespace Go.Proofs.YthlpjiibjlaebaaGreatDoor
theorem if_iff7 {a b : Prop} [Decidable a] [Decidable b] (h : a ↔ b) (x y : Int) : (if a then x else y) = if b then x else y := by
  by_cases hb : b
  · rw [if_pos hb, if_pos (h.2 hb)]
  · rw [if_neg hb, if_neg (fun ha => hb (h.1 ha))]
/-- -1 at 0 and 1 at d. -/
def facL (e d : Nat) : List Int := ((List.replicate e 0).set 0 (-1)).set d 1
theorem facL_len (e d : Nat) : (facL e d).length = e := by simp [facL]
theorem facL_at {e d k : Nat} (hk : k < e) : (facL e d).getD k 0 = if k = d then 1 else if k = 0 then -1 else 0 := by
  unfold facL
  rw [List.getD_eq_getElem?_getD, List.getElem?_set, List.getElem?_set]
  simp only [List.length_set, List.length_replicate]
  by_cases h : d = k
  · subst h
    rw [if_pos rfl, if_pos hk, if_pos rfl]
    rfl
  · rw [if_neg h, if_neg (show ¬ k = d from fun x => h x.symm)]
    by_cases h0 : 0 = k
    · subst h0
      simp [hk]
    · rw [if_neg h0, if_neg (show ¬ k = 0 from fun x => h0 x.symm), List.getElem?_replicate, if_pos hk]
      rfl
theorem mulI_fac {p : List Int} {e d i : Nat} (hd : 0 < d) (hde : d < e) (hi : i < e) (f : Nat → Int) (z : Nat) : ∀ k, k ≤ e → mulI p (facL e d) e i f k z = f z - (if 0 < k ∧ i = z then p.getD i 0 else 0) + (if d < k ∧ (i + d) % e = z then p.getD i 0 else 0)
  | 0, _ => by simp [mulI]
  | k + 1, hk => by
    simp only [mulI, mulS]
    rw [mulI_fac hd hde hi f z k (by omega), facL_at (by omega)]
    by_cases h1 : k = d
    · subst h1
      have a1 : (if 0 < k ∧ i = z then p.getD i 0 else 0) = if 0 < k + 1 ∧ i = z then p.getD i 0 else 0 := if_iff7 ⟨fun x => ⟨by omega, x.2⟩, fun x => ⟨hd, x.2⟩⟩ _ _
      have a2 : (if k < k ∧ (i + k) % e = z then p.getD i 0 else 0) = 0 := if_neg (fun x => absurd x.1 (Nat.lt_irrefl _))
      have a3 : (if k < k + 1 ∧ (i + k) % e = z then p.getD i 0 else 0) = if (i + k) % e = z then p.getD i 0 else 0 := if_iff7 ⟨fun x => x.2, fun x => ⟨by omega, x⟩⟩ _ _
      rw [a1, a2, a3, if_pos rfl, Int.mul_one]
      omega
    · rw [if_neg h1]
      have a1 : (if d < k + 1 ∧ (i + d) % e = z then p.getD i 0 else 0) = if d < k ∧ (i + d) % e = z then p.getD i 0 else 0 := if_iff7 ⟨fun x => ⟨by omega, x.2⟩, fun x => ⟨by omega, x.2⟩⟩ _ _
      rw [a1]
      by_cases h0 : k = 0
      · subst h0
        have a2 : (if 0 < 0 ∧ i = z then p.getD i 0 else 0) = 0 := if_neg (fun x => absurd x.1 (Nat.lt_irrefl _))
        have a3 : (if 0 < 0 + 1 ∧ i = z then p.getD i 0 else 0) = if i = z then p.getD i 0 else 0 := if_iff7 ⟨fun x => x.2, fun x => ⟨by omega, x⟩⟩ _ _
        have a4 : (if i = z then p.getD i 0 * -1 else 0) = -(if i = z then p.getD i 0 else 0) := by split <;> omega
        rw [if_pos rfl, Nat.add_zero, Nat.mod_eq_of_lt hi, a2, a3, a4]
        omega
      · have a2 : (if 0 < k + 1 ∧ i = z then p.getD i 0 else 0) = if 0 < k ∧ i = z then p.getD i 0 else 0 := if_iff7 ⟨fun x => ⟨by omega, x.2⟩, fun x => ⟨by omega, x.2⟩⟩ _ _
        rw [if_neg h0, Int.mul_zero, a2]
        have a3 : (if (i + k) % e = z then (0 : Int) else 0) = 0 := by split <;> rfl
        rw [a3]
        omega
theorem turn_iff {e d i z : Nat} (hde : d ≤ e) (hi : i < e) (hz : z < e) : (i + d) % e = z ↔ i = (z + e - d) % e := by
  constructor
  · intro h
    subst h
    have : (i + d) % e + e - d = (i + d) % e + (e - d) := by omega
    rw [this, Nat.mod_add_mod, show i + d + (e - d) = i + e by omega, Nat.add_mod_right, Nat.mod_eq_of_lt hi]
  · intro h
    subst h
    rw [Nat.mod_add_mod, show z + e - d + d = z + e by omega, Nat.add_mod_right, Nat.mod_eq_of_lt hz]
theorem mulO_fac {p : List Int} {e d : Nat} (hd : 0 < d) (hde : d < e) {z : Nat} (hz : z < e) : ∀ i, i ≤ e → mulO p (facL e d) e i z = (if (z + e - d) % e < i then p.getD ((z + e - d) % e) 0 else 0) - (if z < i then p.getD z 0 else 0)
  | 0, _ => by simp [mulO]
  | i + 1, hi => by
    simp only [mulO]
    rw [mulI_fac hd hde (by omega) _ z e (Nat.le_refl _), mulO_fac hd hde hz i (by omega)]
    have ht := turn_iff (d := d) (by omega) (show i < e by omega) hz
    obtain ⟨y, hy⟩ : ∃ y, (z + e - d) % e = y := ⟨_, rfl⟩
    rw [hy] at ht ⊢
    have a1 : (if 0 < e ∧ i = z then p.getD i 0 else 0) = if i = z then p.getD z 0 else 0 := by
      by_cases h : i = z
      · subst h; rw [if_pos ⟨by omega, rfl⟩, if_pos rfl]
      · rw [if_neg (fun x => h x.2), if_neg h]
    have a2 : (if d < e ∧ (i + d) % e = z then p.getD i 0 else 0) = if i = y then p.getD y 0 else 0 := by
      by_cases h : i = y
      · rw [if_pos ⟨hde, ht.2 h⟩, if_pos h, h]
      · rw [if_neg (fun x => h (ht.1 x.2)), if_neg h]
    have b1 : (if z < i + 1 then p.getD z 0 else 0) = (if z < i then p.getD z 0 else 0) + if i = z then p.getD z 0 else 0 := by
      split <;> split <;> split <;> omega
    have b2 : (if y < i + 1 then p.getD y 0 else 0) = (if y < i then p.getD y 0 else 0) + if i = y then p.getD y 0 else 0 := by
      split <;> split <;> split <;> omega
    rw [a1, a2, b1, b2]
    omega
/-- The cyclic product with -1 and a shift is a turn, less itself. -/
theorem mul_fac {p : List Int} {e d : Nat} (hd : 0 < d) (hde : d < e) : rowZ (mulO p (facL e d) e e) e = rotS e d p := by
  unfold rowZ rotS
  refine List.map_congr_left fun z hz => ?_
  rw [List.mem_range] at hz
  rw [mulO_fac hd hde hz e (Nat.le_refl _), if_pos (Nat.mod_lt _ (by omega)), if_pos hz]
/-- The rounds at most double. -/
theorem rotK_bnd {e : Nat} {p : List Int} (he : 0 < e) {B : Int} (hB : 0 ≤ B) (hp : p.length = e) (hb : ∀ z, z < e → -B ≤ p.getD z 0 ∧ p.getD z 0 ≤ B) : ∀ k, k ≤ e → ∀ z, z < e → -(B * 2 ^ k) ≤ (rotK e p k).getD z 0 ∧ (rotK e p k).getD z 0 ≤ B * 2 ^ k
  | 0, _, z, hz => by simpa [rotK] using hb z hz
  | k + 1, hk, z, hz => by
    have ih := rotK_bnd he hB hp hb k (by omega)
    have h2 : B * 2 ^ (k + 1) = B * 2 ^ k + B * 2 ^ k := by rw [Int.pow_succ, ← Int.mul_assoc]; omega
    have h3 : (0 : Int) ≤ B * 2 ^ k := Int.mul_nonneg hB (Int.pow_nonneg (by decide))
    rw [h2]
    simp only [rotK]
    split
    · have := ih z hz; omega
    · split
      · rw [rotS_getD _ hz]
        have h4 := ih z hz
        have h5 := ih _ (Nat.mod_lt (z + e - k) he)
        omega
      · have := ih z hz; omega
end Go.Proofs.YthlpjiibjlaebaaGreatDoor

namespace Go.Proofs.YthlpjiibjlaebaaGreatDoor
theorem small_mul {f d : Int} (h1 : -1 ≤ d) (h2 : d ≤ 1) {B : Int} (b1 : -B ≤ f) (b2 : f ≤ B) : -B ≤ f * d ∧ f * d ≤ B := by
  have h : d = -1 ∨ d = 0 ∨ d = 1 := by omega
  rcases h with rfl | rfl | rfl <;> omega
theorem restR_bnd {p d : List Int} (bp : ∀ m, -1000 ≤ p.getD m 0 ∧ p.getD m 0 ≤ 1000) (bd : ∀ m, -1 ≤ d.getD m 0 ∧ d.getD m 0 ≤ 1) : ∀ j, j ≤ rounds7 p d → ∀ m, -(1000 * 2 ^ j) ≤ (restR p d j).getD m 0 ∧ (restR p d j).getD m 0 ≤ 1000 * 2 ^ j
  | 0, _, m => by simpa [restR] using bp m
  | j + 1, hj, m => by
    unfold rounds7 at hj
    have ih := restR_bnd bp bd j (by unfold rounds7; omega)
    have h2 : (1000 : Int) * 2 ^ (j + 1) = 1000 * 2 ^ j + 1000 * 2 ^ j := by rw [Int.pow_succ, ← Int.mul_assoc]; omega
    rw [h2]
    simp only [restR]
    have hf := ih (p.length - d.length - j + d.length - 1)
    by_cases hd : d.length = 0
    · have : subP7 d (p.length - d.length - j) ((restR p d j).getD (p.length - d.length - j + d.length - 1) 0) (restR p d j) d.length = restR p d j := by rw [hd]; rfl
      rw [this]
      have := ih m
      have h3 : (0 : Int) ≤ 1000 * 2 ^ j := Int.mul_nonneg (by decide) (Int.pow_nonneg (by decide))
      omega
    · rw [subP7_getD _ (by rw [restR_len]; omega)]
      have h4 := ih m
      split
      · have := small_mul (bd (m - (p.length - d.length - j))).1 (bd (m - (p.length - d.length - j))).2 hf.1 hf.2
        omega
      · have h3 : (0 : Int) ≤ 1000 * 2 ^ j := Int.mul_nonneg (by decide) (Int.pow_nonneg (by decide))
        omega
theorem pow_25 {j : Nat} (h : j ≤ 25) : (1000 : Int) * 2 ^ j ≤ 33554432000 := by
  have h1 : 2 ^ j ≤ 2 ^ 25 := Nat.pow_le_pow_right (by decide) h
  have h2 : ((2 ^ j : Nat) : Int) ≤ ((2 ^ 25 : Nat) : Int) := Int.ofNat_le.2 h1
  have h3 : ((2 ^ j : Nat) : Int) = (2 : Int) ^ j := by simp
  rw [h3] at h2
  have h4 : ((2 ^ 25 : Nat) : Int) = 33554432 := by decide
  rw [h4] at h2
  omega
/-- All numbers that come up within a division. -/
theorem sub_bnd {p d : List Int} (bp : ∀ m, -1000 ≤ p.getD m 0 ∧ p.getD m 0 ≤ 1000) (bd : ∀ m, -1 ≤ d.getD m 0 ∧ d.getD m 0 ≤ 1) {j : Nat} (hj : j < rounds7 p d) (h25 : j ≤ 24) (k : Nat) (hk : k ≤ d.length) (m : Nat) :
    -67108864000 ≤ (subP7 d (p.length - d.length - j) ((restR p d j).getD (p.length - d.length - j + d.length - 1) 0) (restR p d j) k).getD m 0 ∧ (subP7 d (p.length - d.length - j) ((restR p d j).getD (p.length - d.length - j + d.length - 1) 0) (restR p d j) k).getD m 0 ≤ 67108864000 := by
  unfold rounds7 at hj
  have ih := restR_bnd bp bd j (by unfold rounds7; omega)
  have hp := pow_25 (show j ≤ 25 by omega)
  have hf := ih (p.length - d.length - j + d.length - 1)
  rw [subP7_getD _ (by rw [restR_len]; omega)]
  have h4 := ih m
  split
  · have := small_mul (bd (m - (p.length - d.length - j))).1 (bd (m - (p.length - d.length - j))).2 hf.1 hf.2
    omega
  · omega
theorem quotR_len (p d : List Int) : ∀ j, (quotR p d j).length = rounds7 p d
  | 0 => by simp [quotR]
  | j + 1 => by
    simp only [quotR]
    rw [List.length_set, quotR_len p d j]
theorem cycK_congr {C C' : Nat → List Int} {n : Nat} : ∀ j, (∀ k, 0 < k → k < j → C k = C' k) → cycK C n j = cycK C' n j
  | 0, _ => rfl
  | j + 1, h => by
    simp only [cycK]
    rw [cycK_congr j (fun k h1 h2 => h k h1 (by omega))]
    by_cases h0 : j = 0
    · rw [if_pos h0, if_pos h0]
    · rw [if_neg h0, if_neg h0, h j (by omega) (by omega)]
theorem cycF_fuel : ∀ n f, n < f → cycF f n = cycL n := by
  intro n
  induction n using Nat.strongRecOn with
  | _ n ih =>
    intro f hf
    obtain ⟨g, rfl⟩ : ∃ g, f = g + 1 := ⟨f - 1, by omega⟩
    show cycK (cycF g) n n = cycK (cycF n) n n
    exact cycK_congr n (fun k _ hk => by rw [ih k hk g (by omega), ih k hk n hk])
theorem cycL_eq (n : Nat) : cycL n = cycK cycL n n := by
  show cycK (cycF n) n n = _
  exact cycK_congr n (fun k _ hk => cycF_fuel k n hk)
def bndB (B : Int) (l : List Int) : Bool := l.all fun x => decide (-B ≤ x) && decide (x ≤ B)
theorem bndB_at {B : Int} {l : List Int} (hB : 0 ≤ B) (h : bndB B l = true) (m : Nat) : -B ≤ l.getD m 0 ∧ l.getD m 0 ≤ B := by
  unfold bndB at h
  rw [List.all_eq_true] at h
  by_cases hm : m < l.length
  · have h1 := h (l.getD m 0) (by simp [List.getD, hm])
    simpa using h1
  · have : l.getD m 0 = 0 := by simp [List.getD, Nat.le_of_not_lt hm]
    rw [this]
    omega
def chkQ : Bool := (List.range 25).all fun n => bndB 1 (phL n) && ((List.range n).all fun k => k == 0 || (n % k != 0 || (bndB 1000 (cycK phL n k) && (decide ((cycK phL n k).length ≤ 25) && (decide ((phL k).length ≤ (cycK phL n k).length) && decide (1 ≤ (phL k).length))))))
set_option maxRecDepth 100000 in
theorem chkQ_all : chkQ = true := by decide +kernel
theorem quo_at {n k : Nat} (hn : n ≤ 24) (hk0 : 0 < k) (hk : k < n) (hd : n % k = 0) : (∀ m, -1000 ≤ (cycK cycL n k).getD m 0 ∧ (cycK cycL n k).getD m 0 ≤ 1000) ∧ (∀ m, -1 ≤ (cycL k).getD m 0 ∧ (cycL k).getD m 0 ≤ 1) ∧ (cycK cycL n k).length ≤ 25 ∧ (cycL k).length ≤ (cycK cycL n k).length ∧ 1 ≤ (cycL k).length := by
  have hc : ∀ k, 0 < k → k ≤ 24 → cycL k = phL k := fun k h0 h24 => by
    have h := chk_at h0 h24
    unfold chkE at h
    simp only [Bool.and_eq_true, beq_iff_eq] at h
    exact h.1
  have h := List.all_eq_true.1 chkQ_all n (List.mem_range.2 (by omega))
  rw [Bool.and_eq_true] at h
  have h1 := List.all_eq_true.1 h.2 k (List.mem_range.2 hk)
  have e1 : (k == 0) = false := by simp; omega
  have e2 : (n % k != 0) = false := by rw [hd]; rfl
  rw [e1, e2, Bool.false_or, Bool.false_or] at h1
  simp only [Bool.and_eq_true, decide_eq_true_eq] at h1
  have h3 := List.all_eq_true.1 chkQ_all k (List.mem_range.2 (by omega))
  rw [Bool.and_eq_true] at h3
  have e3 : cycK cycL n k = cycK phL n k := cycK_congr k (fun j h0 hj => hc j h0 (by omega))
  rw [e3, hc k hk0 (by omega)]
  exact ⟨fun m => bndB_at (by decide) h1.1 m, fun m => bndB_at (by decide) h3.1 m, h1.2.1, h1.2.2.1, h1.2.2.2⟩
theorem cyc_at {n : Nat} (hn : 0 < n) (h24 : n ≤ 24) : (∀ m, -1 ≤ (cycL n).getD m 0 ∧ (cycL n).getD m 0 ≤ 1) ∧ (cycL n).length ≤ n + 1 ∧ 1 ≤ (cycL n).length := by
  have h := chk_at hn h24
  unfold chkE at h
  simp only [Bool.and_eq_true, beq_iff_eq, decide_eq_true_eq] at h
  have h3 := List.all_eq_true.1 chkQ_all n (List.mem_range.2 (by omega))
  rw [Bool.and_eq_true] at h3
  rw [h.1]
  exact ⟨fun m => bndB_at (by decide) h3.1 m, h.2.2.2.2.1, h.2.2.1⟩
end Go.Proofs.YthlpjiibjlaebaaGreatDoor
