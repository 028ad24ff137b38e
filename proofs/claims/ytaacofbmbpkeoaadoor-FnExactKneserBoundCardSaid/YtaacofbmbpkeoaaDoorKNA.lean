/- Merged: Kneser Vosper KnMore KnEn. -/
import Derived.Test.YtaacofbmbpkeoaaDoorSetMath
namespace Go.Proofs.YtaacofbmbpkeoaaDoor
structure Abel (N : Nat) (ad : Nat → Nat → Nat) (ng : Nat → Nat) : Prop where
  pos : 0 < N
  lt : ∀ x y, ad x y < N
  nlt : ∀ x, ng x < N
  comm : ∀ x y, ad x y = ad y x
  assoc : ∀ x y z, ad (ad x y) z = ad x (ad y z)
  zero : ∀ x, x < N → ad x 0 = x
  neg : ∀ x, ad x (ng x) = 0
/-- The sum of the first k values. -/
def sm (f : Nat → Nat) : Nat → Nat
  | 0 => 0
  | k + 1 => sm f k + f k
theorem sm_congr {f g : Nat → Nat} : ∀ {n : Nat}, (∀ i, i < n → f i = g i) → sm f n = sm g n
  | 0, _ => rfl
  | n + 1, h => by
    simp only [sm]
    rw [sm_congr (fun i hi => h i (by omega)), h n (by omega)]
theorem sm_le {f g : Nat → Nat} : ∀ {n : Nat}, (∀ i, i < n → f i ≤ g i) → sm f n ≤ sm g n
  | 0, _ => Nat.le_refl _
  | n + 1, h => by
    have h1 := sm_le (n := n) (fun i hi => h i (by omega))
    have h2 := h n (by omega)
    simp only [sm]
    omega
theorem sm_add (f g : Nat → Nat) : ∀ n, sm (fun i => f i + g i) n = sm f n + sm g n
  | 0 => rfl
  | n + 1 => by
    simp only [sm]
    rw [sm_add f g n]
    omega
theorem sm_zero : ∀ n, sm (fun _ => 0) n = 0
  | 0 => rfl
  | n + 1 => by
    simp only [sm]
    rw [sm_zero n]
theorem sm_mul (c : Nat) (f : Nat → Nat) : ∀ n, sm (fun i => c * f i) n = c * sm f n
  | 0 => by simp [sm]
  | n + 1 => by
    simp only [sm]
    rw [sm_mul c f n, Nat.mul_add]
theorem sm_one (v : Nat) (f : Nat → Nat) : ∀ n, sm (fun s => if v = s then f s else 0) n = if v < n then f v else 0
  | 0 => by simp [sm]
  | n + 1 => by
    simp only [sm]
    rw [sm_one v f n]
    by_cases h : v = n
    · subst h; simp
    · by_cases h2 : v < n
      · have : v < n + 1 := by omega
        simp [h, h2, this]
      · have : ¬ v < n + 1 := by omega
        simp [h, h2, this]
theorem sm_swap (f : Nat → Nat → Nat) (n : Nat) : ∀ m, sm (fun i => sm (f i) n) m = sm (fun j => sm (fun i => f i j) m) n
  | 0 => by
    simp only [sm]
    rw [sm_zero]
  | m + 1 => by
    simp only [sm]
    rw [sm_swap f n m, sm_add]
/-- The size of a set. -/
def cd (N : Nat) (P : Nat → Bool) : Nat := sm (fun i => (P i).toNat) N
theorem cd_congr {N : Nat} {P Q : Nat → Bool} (h : ∀ i, i < N → P i = Q i) : cd N P = cd N Q := sm_congr (fun i hi => by rw [h i hi])
theorem cd_le {N : Nat} {P Q : Nat → Bool} (h : ∀ i, i < N → P i = true → Q i = true) : cd N P ≤ cd N Q := sm_le (fun i hi => by
  cases hp : P i with
  | false => simp
  | true => rw [h i hi hp]; exact Nat.le_refl _)
theorem cd_or (N : Nat) (P Q : Nat → Bool) : cd N (fun i => P i || Q i) + cd N (fun i => P i && Q i) = cd N P + cd N Q := by
  unfold cd
  rw [← sm_add, ← sm_add]
  exact sm_congr (fun i _ => by dsimp only; cases P i <;> cases Q i <;> rfl)
theorem cd_split (N : Nat) (P Q : Nat → Bool) : cd N (fun i => P i && Q i) + cd N (fun i => P i && !Q i) = cd N P := by
  unfold cd
  rw [← sm_add]
  exact sm_congr (fun i _ => by dsimp only; cases P i <;> cases Q i <;> rfl)
theorem sm_same {f g : Nat → Nat} : ∀ {n : Nat}, (∀ i, i < n → f i ≤ g i) → sm g n ≤ sm f n → ∀ i, i < n → f i = g i
  | 0, _, _, i, hi => absurd hi (by omega)
  | n + 1, h, hs, i, hi => by
    have h1 := sm_le (n := n) (fun i hi => h i (by omega))
    have h2 := h n (by omega)
    simp only [sm] at hs
    by_cases e : i = n
    · subst e; omega
    · exact sm_same (n := n) (fun i hi => h i (by omega)) (by omega) i (by omega)
/-- A part that is as large is the whole. -/
theorem cd_same {N : Nat} {P Q : Nat → Bool} (h : ∀ i, i < N → P i = true → Q i = true) (hs : cd N Q ≤ cd N P) : ∀ i, i < N → P i = Q i := fun i hi => by
  have h1 := sm_same (f := fun i => (P i).toNat) (g := fun i => (Q i).toNat) (fun i hi => by
    show (P i).toNat ≤ (Q i).toNat
    cases hp : P i with
    | false => simp
    | true => rw [h i hi hp]; exact Nat.le_refl _) hs i hi
  have h2 : (P i).toNat = (Q i).toNat := h1
  cases hp : P i <;> cases hq : Q i <;> simp_all
theorem cd_pos {N : Nat} {P : Nat → Bool} {i : Nat} (hi : i < N) (h : P i = true) : 0 < cd N P := by
  rcases Nat.eq_zero_or_pos (cd N P) with h0 | h0
  · have := cd_same (P := fun _ => false) (Q := P) (fun _ _ h => by cases h) (by rw [h0]; exact Nat.zero_le _) i hi
    rw [h] at this
    cases this
  · exact h0
theorem cd_ex {N : Nat} {P : Nat → Bool} (h : 0 < cd N P) : ∃ i, i < N ∧ P i = true := by
  apply Classical.byContradiction
  intro hn
  have e : cd N P = cd N (fun _ => false) := cd_congr (fun i hi => by
    cases hp : P i with
    | false => rfl
    | true => exact absurd ⟨i, hi, hp⟩ hn)
  have : cd N (fun _ => false) = 0 := sm_zero N
  omega
section
variable {N : Nat} {ad : Nat → Nat → Nat} {ng : Nat → Nat} (G : Abel N ad ng)
include G
theorem ab_back {x : Nat} (y : Nat) (hx : x < N) : ad (ad x y) (ng y) = x := by rw [G.assoc, G.neg, G.zero x hx]
theorem ab_forth {x : Nat} (y : Nat) (hx : x < N) : ad (ad x (ng y)) y = x := by rw [G.assoc, G.comm (ng y) y, G.neg, G.zero x hx]
theorem ab_move {x y t : Nat} (hx : x < N) (hy : y < N) : ad x t = y ↔ ad y (ng t) = x := by
  constructor
  · rintro rfl; exact ab_back G t hx
  · rintro rfl; exact ab_forth G t hy
/-- A shift keeps sizes. -/
theorem cd_shift (Q : Nat → Bool) (t : Nat) : cd N (fun z => Q (ad z t)) = cd N Q := by
  unfold cd
  have e1 : sm (fun z => (Q (ad z t)).toNat) N = sm (fun z => sm (fun y => if ad z t = y then (Q y).toNat else 0) N) N := sm_congr (fun z _ => by
    rw [sm_one, if_pos (G.lt z t)])
  rw [e1, sm_swap]
  refine sm_congr (fun y hy => ?_)
  have e2 : sm (fun z => if ad z t = y then (Q y).toNat else 0) N = sm (fun z => if ad y (ng t) = z then (fun _ => (Q y).toNat) z else 0) N := sm_congr (fun z hz => by
    by_cases h : ad z t = y
    · rw [if_pos h, if_pos ((ab_move G hz hy).1 h)]
    · rw [if_neg h, if_neg (fun h2 => h ((ab_move G hz hy).2 h2))])
  rw [e2, sm_one, if_pos (G.lt _ _)]
end
theorem mul_bound {h0 p q x : Nat} (h1 : 1 ≤ h0) (hp : h0 ≤ p) (hq : h0 ≤ q) (h : p * q ≤ h0 * x) : p + q ≤ x + h0 := by
  obtain ⟨a, rfl⟩ : ∃ a, p = h0 + a := ⟨p - h0, by omega⟩
  obtain ⟨b, rfl⟩ : ∃ b, q = h0 + b := ⟨q - h0, by omega⟩
  have e : h0 * (h0 + a + b) ≤ h0 * x := by
    refine Nat.le_trans ?_ h
    rw [Nat.add_mul, Nat.mul_add, Nat.mul_add h0, Nat.mul_add h0, Nat.mul_add a, Nat.mul_comm a h0]
    omega
  have := Nat.le_of_mul_le_mul_left e (by omega)
  omega
/-- Whether a shift keeps a set. -/
def stb (N : Nat) (ad : Nat → Nat → Nat) (C : Nat → Bool) (x : Nat) : Bool := (List.range N).all fun z => C (ad z x) == C z
theorem stb_iff {N : Nat} {ad : Nat → Nat → Nat} {C : Nat → Bool} {x : Nat} : stb N ad C x = true ↔ ∀ z, z < N → C (ad z x) = C z := by
  unfold stb
  rw [List.all_eq_true]
  constructor
  · intro h z hz
    have := h z (List.mem_range.2 hz)
    simpa using this
  · intro h z hz
    have := h z (List.mem_range.1 hz)
    simpa using this
section
variable {N : Nat} {ad : Nat → Nat → Nat} {ng : Nat → Nat} (G : Abel N ad ng)
include G
theorem stb_zero (C : Nat → Bool) : stb N ad C 0 = true := stb_iff.2 (fun z hz => by rw [G.zero z hz])
theorem stb_add {C : Nat → Bool} {x y : Nat} (hx : stb N ad C x = true) (hy : stb N ad C y = true) : stb N ad C (ad x y) = true := stb_iff.2 (fun z hz => by
  rw [← G.assoc, stb_iff.1 hy _ (G.lt z x), stb_iff.1 hx z hz])
theorem stb_neg {C : Nat → Bool} {x : Nat} (hx : stb N ad C x = true) : stb N ad C (ng x) = true := stb_iff.2 (fun z hz => by
  have := stb_iff.1 hx (ad z (ng x)) (G.lt _ _)
  rw [ab_forth G x hz] at this
  exact this.symm)
theorem stb_of {C D : Nat → Bool} (h : ∀ z, z < N → C z = D z) (x : Nat) : stb N ad C x = stb N ad D x := by
  apply Bool.eq_iff_iff.2
  rw [stb_iff, stb_iff]
  constructor
  · intro g z hz; rw [← h _ (G.lt z x), ← h z hz]; exact g z hz
  · intro g z hz; rw [h _ (G.lt z x), h z hz]; exact g z hz
/-- The pairs of P and Q whose sum with d is in D: at most |H0| of them have one sum. -/
theorem pair_count {C1 C2 D P Q : Nat → Bool} (d : Nat) (hP : ∀ h, h < N → P h = true → stb N ad C2 h = true) (hQ : ∀ k, k < N → Q k = true → stb N ad C1 k = true)
    (hD : ∀ h k, h < N → k < N → P h = true → Q k = true → D (ad (ad d h) k) = true) :
    cd N P * cd N Q ≤ cd N (fun x => stb N ad C1 x && stb N ad C2 x) * cd N D := by
  -- the number of pairs with the sum z
  have key : ∀ z, z < N → sm (fun h => (P h && Q (ad z (ng (ad d h)))).toNat) N ≤ cd N (fun x => stb N ad C1 x && stb N ad C2 x) * (D z).toNat := by
    intro z hz
    by_cases hex : ∃ h, h < N ∧ (P h && Q (ad z (ng (ad d h)))) = true
    · obtain ⟨h0, hh0, hp0⟩ := hex
      rw [Bool.and_eq_true] at hp0
      have hDz : D z = true := by
        have := hD h0 (ad z (ng (ad d h0))) hh0 (G.lt _ _) hp0.1 hp0.2
        rw [G.comm (ad d h0) _, ab_forth G _ hz] at this
        exact this
      rw [hDz]
      simp only [Bool.toNat_true, Nat.mul_one]
      -- h goes to h - h0
      have e : sm (fun h => (P h && Q (ad z (ng (ad d h)))).toNat) N = cd N (fun h => P h && Q (ad z (ng (ad d h)))) := rfl
      rw [e, ← cd_shift G _ h0]
      refine cd_le (fun x hx hpx => ?_)
      rw [Bool.and_eq_true] at hpx
      have s2 : stb N ad C2 x = true := by
        have h1 := stb_add G (hP _ (G.lt x h0) hpx.1) (stb_neg G (hP h0 hh0 hp0.1))
        rw [ab_back G h0 hx] at h1
        exact h1
      have s1 : stb N ad C1 x = true := by
        have h1 := stb_add G (hQ _ (G.lt _ _) hp0.2) (stb_neg G (hQ _ (G.lt _ _) hpx.2))
        have e2 : ad (ad z (ng (ad d h0))) (ng (ad z (ng (ad d (ad x h0))))) = x := by
          rw [← ab_move G hx (G.lt _ _)]
          -- x + (z - (d + x + h0)) = z - (d + h0)
          have hh : ad (ad x (ad z (ng (ad d (ad x h0))))) (ad d h0) = z := by
            have e3 : ad (ad x (ad z (ng (ad d (ad x h0))))) (ad d h0) = ad (ad z (ng (ad d (ad x h0)))) (ad d (ad x h0)) := by
              rw [G.comm x, G.assoc, G.comm x (ad d h0), G.assoc d h0 x, G.comm h0 x]
            rw [e3, ab_forth G _ hz]
          exact ((ab_move G (G.lt _ _) hz).1 hh).symm
        rw [e2] at h1
        exact h1
      rw [s1, s2]
      rfl
    · have e : sm (fun h => (P h && Q (ad z (ng (ad d h)))).toNat) N = sm (fun _ => 0) N := sm_congr (fun h hh => by
        cases hp : (P h && Q (ad z (ng (ad d h)))) with
        | false => rfl
        | true => exact absurd ⟨h, hh, hp⟩ hex)
      rw [e, sm_zero]
      exact Nat.zero_le _
  have h1 := sm_le (n := N) key
  rw [sm_mul] at h1
  have h2 : sm (fun z => sm (fun h => (P h && Q (ad z (ng (ad d h)))).toNat) N) N = cd N P * cd N Q := by
    rw [sm_swap]
    have e : ∀ h, sm (fun z => (P h && Q (ad z (ng (ad d h)))).toNat) N = cd N Q * (P h).toNat := by
      intro h
      cases hp : P h with
      | false =>
        simp only [Bool.false_and, Bool.toNat_false, Nat.mul_zero]
        exact sm_zero N
      | true =>
        simp only [Bool.true_and, Bool.toNat_true, Nat.mul_one]
        exact cd_shift G Q (ng (ad d h))
    rw [sm_congr (fun h _ => e h), sm_mul, Nat.mul_comm]
    rfl
  rw [h2] at h1
  exact h1
/-- A set that the common stabilizer keeps is empty or as large as that. -/
theorem part_size {H P : Nat → Bool} {x : Nat} (hx : x < N) (hp : P x = true) (h : ∀ y z, y < N → z < N → P y = true → H z = true → P (ad y z) = true) : cd N H ≤ cd N P := by
  rw [← cd_shift G P x]
  exact cd_le (fun z hz hh => by rw [G.comm]; exact h x z hx hz hp hh)
/-- One half of Kneser's lemma. -/
theorem kn_half {C1 C2 : Nat → Bool} {d : Nat} (hd : d < N) (h2 : C2 d = true) (h1 : C1 d = false) :
    cd N (stb N ad C2) ≤ cd N (fun z => C2 z && !C1 z) ∨ cd N (stb N ad C1) ≤ cd N (fun z => C2 z && !C1 z) + cd N (fun x => stb N ad C1 x && stb N ad C2 x) ∨ cd N (stb N ad C2) ≤ cd N (fun z => C1 z && !C2 z) + cd N (fun x => stb N ad C1 x && stb N ad C2 x) := by
  have hd0 : ad d 0 = d := G.zero d hd
  have hH : 1 ≤ cd N (fun x => stb N ad C1 x && stb N ad C2 x) := cd_pos (i := 0) G.pos (by rw [stb_zero G, stb_zero G]; rfl)
  -- where d + h + k lies
  have in1 : ∀ h k, stb N ad C1 k = true → C1 (ad (ad d h) k) = C1 (ad d h) := fun h k hk => stb_iff.1 hk _ (G.lt _ _)
  have in2 : ∀ h k, stb N ad C2 h = true → C2 (ad (ad d h) k) = C2 (ad d k) := fun h k hh => by
    rw [G.assoc, G.comm h k, ← G.assoc]; exact stb_iff.1 hh _ (G.lt _ _)
  have cnt1 := pair_count G (C1 := C1) (C2 := C2) (D := fun z => C2 z && !C1 z) (P := fun h => stb N ad C2 h && !C1 (ad d h)) (Q := fun k => stb N ad C1 k && C2 (ad d k)) d
    (fun h _ hp => (Bool.and_eq_true_iff.1 hp).1) (fun k _ hq => (Bool.and_eq_true_iff.1 hq).1) (fun h k _ _ hp hq => by
      rw [Bool.and_eq_true] at hp hq
      show (C2 (ad (ad d h) k) && !C1 (ad (ad d h) k)) = true
      rw [in1 h k hq.1, in2 h k hp.1, hq.2, hp.2]
      rfl)
  have cnt2 := pair_count G (C1 := C1) (C2 := C2) (D := fun z => C1 z && !C2 z) (P := fun h => stb N ad C2 h && C1 (ad d h)) (Q := fun k => stb N ad C1 k && !C2 (ad d k)) d
    (fun h _ hp => (Bool.and_eq_true_iff.1 hp).1) (fun k _ hq => (Bool.and_eq_true_iff.1 hq).1) (fun h k _ _ hp hq => by
      rw [Bool.and_eq_true] at hp hq
      show (C1 (ad (ad d h) k) && !C2 (ad (ad d h) k)) = true
      rw [in1 h k hq.1, in2 h k hp.1, hp.2, hq.2]
      rfl)
  have sp := cd_split N (stb N ad C2) (fun h => C1 (ad d h))
  have sq := cd_split N (stb N ad C1) (fun k => C2 (ad d k))
  -- each of the four is empty or large
  have big1 : ∀ (E : Bool → Bool) (h : Nat), h < N → (stb N ad C2 h && E (C1 (ad d h))) = true → cd N (fun x => stb N ad C1 x && stb N ad C2 x) ≤ cd N (fun h => stb N ad C2 h && E (C1 (ad d h))) := fun E h hh hp =>
    part_size G (P := fun h => stb N ad C2 h && E (C1 (ad d h))) hh hp (fun y z _ _ hy hz => by
      have hy' : (stb N ad C2 y && E (C1 (ad d y))) = true := hy
      rw [Bool.and_eq_true] at hy' hz
      show (stb N ad C2 (ad y z) && E (C1 (ad d (ad y z)))) = true
      rw [stb_add G hy'.1 hz.2, ← G.assoc, stb_iff.1 hz.1 _ (G.lt _ _), hy'.2]
      rfl)
  have big2 : ∀ (E : Bool → Bool) (k : Nat), k < N → (stb N ad C1 k && E (C2 (ad d k))) = true → cd N (fun x => stb N ad C1 x && stb N ad C2 x) ≤ cd N (fun k => stb N ad C1 k && E (C2 (ad d k))) := fun E k hk hq =>
    part_size G (P := fun k => stb N ad C1 k && E (C2 (ad d k))) hk hq (fun y z _ _ hy hz => by
      have hy' : (stb N ad C1 y && E (C2 (ad d y))) = true := hy
      rw [Bool.and_eq_true] at hy' hz
      show (stb N ad C1 (ad y z) && E (C2 (ad d (ad y z)))) = true
      rw [stb_add G hy'.1 hz.1, ← G.assoc, stb_iff.1 hz.2 _ (G.lt _ _), hy'.2]
      rfl)
  have bq := big2 (fun b => b) 0 G.pos (by rw [stb_zero G, hd0, h2]; rfl)
  have bp' := big1 (fun b => !b) 0 G.pos (by rw [stb_zero G, hd0, h1]; rfl)
  have bp : cd N (fun h => stb N ad C2 h && C1 (ad d h)) = 0 ∨ cd N (fun x => stb N ad C1 x && stb N ad C2 x) ≤ cd N (fun h => stb N ad C2 h && C1 (ad d h)) := by
    rcases Nat.eq_zero_or_pos (cd N (fun h => stb N ad C2 h && C1 (ad d h))) with h | h
    · exact .inl h
    · obtain ⟨i, hi, hp⟩ := cd_ex h
      exact .inr (big1 (fun b => b) i hi hp)
  have bq' : cd N (fun k => stb N ad C1 k && !C2 (ad d k)) = 0 ∨ cd N (fun x => stb N ad C1 x && stb N ad C2 x) ≤ cd N (fun k => stb N ad C1 k && !C2 (ad d k)) := by
    rcases Nat.eq_zero_or_pos (cd N (fun k => stb N ad C1 k && !C2 (ad d k))) with h | h
    · exact .inl h
    · obtain ⟨i, hi, hp⟩ := cd_ex h
      exact .inr (big2 (fun b => !b) i hi hp)
  have bq2 : cd N (fun x => stb N ad C1 x && stb N ad C2 x) ≤ cd N (fun k => stb N ad C1 k && C2 (ad d k)) := bq
  have bp2 : cd N (fun x => stb N ad C1 x && stb N ad C2 x) ≤ cd N (fun h => stb N ad C2 h && !C1 (ad d h)) := bp'
  generalize cd N (fun x => stb N ad C1 x && stb N ad C2 x) = h0 at *
  generalize cd N (fun h => stb N ad C2 h && C1 (ad d h)) = p at *
  generalize cd N (fun h => stb N ad C2 h && !C1 (ad d h)) = p' at *
  generalize cd N (fun k => stb N ad C1 k && C2 (ad d k)) = q at *
  generalize cd N (fun k => stb N ad C1 k && !C2 (ad d k)) = q' at *
  generalize cd N (fun z => C2 z && !C1 z) = x at *
  generalize cd N (fun z => C1 z && !C2 z) = y at *
  have hx := mul_bound hH bp2 bq2 cnt1
  rcases bp with e | bp
  · left; omega
  · rcases bq' with e | bq'
    · right; left; omega
    · have hy := mul_bound hH bp bq' cnt2
      omega
/-- Kneser's lemma: a bound that two sets keep is kept by their union. -/
theorem kn_union {C1 C2 : Nat → Bool} {t : Nat} (h1 : t ≤ cd N C1 + cd N (stb N ad C1)) (h2 : t ≤ cd N C2 + cd N (stb N ad C2)) :
    t ≤ cd N (fun z => C1 z || C2 z) + cd N (stb N ad (fun z => C1 z || C2 z)) := by
  by_cases s1 : ∀ z, z < N → C1 z = true → C2 z = true
  · have e : ∀ z, z < N → (C1 z || C2 z) = C2 z := fun z hz => by
      cases h : C1 z with
      | false => rfl
      | true => rw [s1 z hz h]; rfl
    rw [cd_congr e, cd_congr (fun x _ => stb_of G e x)]
    exact h2
  by_cases s2 : ∀ z, z < N → C2 z = true → C1 z = true
  · have e : ∀ z, z < N → (C1 z || C2 z) = C1 z := fun z hz => by
      cases h : C2 z with
      | false => simp
      | true => rw [s2 z hz h]; rfl
    rw [cd_congr e, cd_congr (fun x _ => stb_of G e x)]
    exact h1
  have s1' : ∃ z, z < N ∧ C1 z = true ∧ C2 z = false := Classical.byContradiction (fun hn => s1 (fun z hz h => by
    cases h2 : C2 z with
    | true => rfl
    | false => exact absurd ⟨z, hz, h, h2⟩ hn))
  have s2' : ∃ z, z < N ∧ C2 z = true ∧ C1 z = false := Classical.byContradiction (fun hn => s2 (fun z hz h => by
    cases h2 : C1 z with
    | true => rfl
    | false => exact absurd ⟨z, hz, h, h2⟩ hn))
  obtain ⟨d, hd, a1, a2⟩ := s2'
  obtain ⟨d', hd', b1, b2⟩ := s1'
  have k1 := kn_half G hd a1 a2
  have k2 := kn_half G hd' b1 b2
  have ec : cd N (fun x => stb N ad C2 x && stb N ad C1 x) = cd N (fun x => stb N ad C1 x && stb N ad C2 x) := cd_congr (fun x _ => Bool.and_comm _ _)
  rw [ec] at k2
  have hs : cd N (fun x => stb N ad C1 x && stb N ad C2 x) ≤ cd N (stb N ad (fun z => C1 z || C2 z)) := cd_le (fun x _ hx => by
    rw [Bool.and_eq_true] at hx
    exact stb_iff.2 (fun z hz => by rw [stb_iff.1 hx.1 z hz, stb_iff.1 hx.2 z hz]))
  have c1 := cd_or N C1 C2
  have c2 := cd_split N C1 C2
  have c3 := cd_split N C2 C1
  have ec2 : cd N (fun z => C2 z && C1 z) = cd N (fun z => C1 z && C2 z) := cd_congr (fun x _ => Bool.and_comm _ _)
  rw [ec2] at c3
  omega
/-- For each element of B a set of sums that keeps the bound. -/
theorem kn_cover : ∀ (n : Nat) (A B : Nat → Bool) (b : Nat), cd N B ≤ n → b < N → B b = true →
    ∃ C : Nat → Bool, (∀ a, a < N → A a = true → C (ad a b) = true) ∧ (∀ z, z < N → C z = true → ∃ x y, x < N ∧ y < N ∧ A x = true ∧ B y = true ∧ ad x y = z) ∧ cd N A + cd N B ≤ cd N C + cd N (stb N ad C)
  | 0, A, B, b, hn, hb, hB => absurd (cd_pos hb hB) (by omega)
  | n + 1, A, B, b, hn, hb, hB => by
    by_cases hall : ∀ a y, a < N → y < N → A a = true → B y = true → A (ad y (ad a (ng b))) = true
    · refine ⟨fun z => A (ad z (ng b)), fun a ha h => by show A (ad (ad a b) (ng b)) = true; rw [ab_back G b ha]; exact h, fun z hz h => ⟨ad z (ng b), b, G.lt _ _, hb, h, hB, ab_forth G b hz⟩, ?_⟩
      rw [cd_shift G A (ng b)]
      have hst : cd N B ≤ cd N (stb N ad (fun z => A (ad z (ng b)))) := by
        rw [← cd_shift G B b]
        refine cd_le (fun x hx hy => ?_)
        have step : ∀ z, z < N → A z = true → A (ad z x) = true := fun z hz hz2 => by
          have := hall z (ad x b) hz (G.lt _ _) hz2 hy
          have e : ad (ad x b) (ad z (ng b)) = ad z x := by
            rw [G.comm z, ← G.assoc, ab_back G b hx, G.comm]
          rw [e] at this
          exact this
        have same := cd_same step (by rw [cd_shift G A x]; exact Nat.le_refl _)
        exact stb_iff.2 (fun z hz => by
          have h1 := same (ad z (ng b)) (G.lt _ _)
          have e : ad (ad z x) (ng b) = ad (ad z (ng b)) x := by rw [G.assoc, G.comm x, ← G.assoc]
          show A (ad (ad z x) (ng b)) = A (ad z (ng b))
          rw [e]
          exact h1.symm)
      omega
    · obtain ⟨a, y, ha, hy, hA, hBy, hno⟩ : ∃ a y, a < N ∧ y < N ∧ A a = true ∧ B y = true ∧ A (ad y (ad a (ng b))) = false := Classical.byContradiction (fun hn => hall (fun a y ha hy h1 h2 => by
        cases h : A (ad y (ad a (ng b))) with
        | true => rfl
        | false => exact absurd ⟨a, y, ha, hy, h1, h2, h⟩ hn))
      obtain ⟨e, he⟩ : ∃ e, ad a (ng b) = e := ⟨_, rfl⟩
      rw [he] at hno
      have hsum : cd N (fun z => A z || B (ad z (ng e))) + cd N (fun z => B z && A (ad z e)) = cd N A + cd N B := by
        have c1 := cd_or N A (fun z => B (ad z (ng e)))
        rw [cd_shift G B (ng e)] at c1
        have c2 : cd N (fun z => A z && B (ad z (ng e))) = cd N (fun z => B z && A (ad z e)) := by
          rw [← cd_shift G (fun z => A z && B (ad z (ng e))) e]
          exact cd_congr (fun z hz => by rw [ab_back G e hz, Bool.and_comm])
        rw [c2] at c1
        exact c1
      have hlt : cd N (fun z => B z && A (ad z e)) < cd N B := by
        have hle : cd N (fun z => B z && A (ad z e)) ≤ cd N B := cd_le (fun z _ h => (Bool.and_eq_true_iff.1 h).1)
        rcases Nat.lt_or_ge (cd N (fun z => B z && A (ad z e))) (cd N B) with h | h
        · exact h
        · have := cd_same (P := fun z => B z && A (ad z e)) (fun z _ h => (Bool.and_eq_true_iff.1 h).1) h y hy
          rw [hBy, hno] at this
          cases this
      have hb2 : (B b && A (ad b e)) = true := by
        have e2 : ad b e = a := by rw [← he, G.comm, ab_forth G b ha]
        rw [hB, e2, hA]
        rfl
      obtain ⟨C, g1, g2, g3⟩ := kn_cover n (fun z => A z || B (ad z (ng e))) (fun z => B z && A (ad z e)) b (by omega) hb hb2
      refine ⟨C, fun a ha h => g1 a ha (by rw [h]; rfl), fun z hz h => ?_, by omega⟩
      obtain ⟨x, y2, hx, hy2, hx1, hy1, e3⟩ := g2 z hz h
      rw [Bool.and_eq_true] at hy1
      rw [Bool.or_eq_true] at hx1
      rcases hx1 with hx1 | hx1
      · exact ⟨x, y2, hx, hy2, hx1, hy1.1, e3⟩
      · refine ⟨ad y2 e, ad x (ng e), G.lt _ _, G.lt _ _, hy1.2, hx1, ?_⟩
        rw [← e3, G.assoc, G.comm e, ab_forth G e hx, G.comm]
/-- All of them together. -/
theorem kn_all (A B : Nat → Bool) : ∀ k, k ≤ N → (∀ b, b < k → B b = false) ∨ ∃ C : Nat → Bool, (∀ b, b < k → B b = true → ∀ a, a < N → A a = true → C (ad a b) = true) ∧ (∀ z, z < N → C z = true → ∃ x y, x < N ∧ y < N ∧ A x = true ∧ B y = true ∧ ad x y = z) ∧ cd N A + cd N B ≤ cd N C + cd N (stb N ad C)
  | 0, _ => .inl (fun b hb => absurd hb (by omega))
  | k + 1, hk => by
    have ih := kn_all A B k (by omega)
    cases hB : B k with
    | false =>
      rcases ih with ih | ⟨C, h1, h2, h3⟩
      · exact .inl (fun b hb => by
          by_cases e : b = k
          · subst e; exact hB
          · exact ih b (by omega))
      · refine .inr ⟨C, fun b hb hbb => ?_, h2, h3⟩
        by_cases e : b = k
        · subst e; rw [hB] at hbb; cases hbb
        · exact h1 b (by omega) hbb
    | true =>
      obtain ⟨D, d1, d2, d3⟩ := kn_cover G (cd N B) A B k (Nat.le_refl _) (by omega) hB
      rcases ih with ih | ⟨C, h1, h2, h3⟩
      · refine .inr ⟨D, fun b hb hbb => ?_, d2, d3⟩
        by_cases e : b = k
        · rw [e]; exact d1
        · rw [ih b (by omega)] at hbb; cases hbb
      · refine .inr ⟨fun z => C z || D z, fun b hb hbb a ha h => ?_, fun z hz h => ?_, kn_union G h3 d3⟩
        · show (C (ad a b) || D (ad a b)) = true
          by_cases e : b = k
          · subst e; rw [d1 a ha h, Bool.or_true]
          · rw [h1 b (by omega) hbb a ha h, Bool.true_or]
        · rw [Bool.or_eq_true] at h
          rcases h with h | h
          · exact h2 z hz h
          · exact d2 z hz h
/-- Kneser's theorem, first form. -/
theorem kn_first {A B S : Nat → Bool} (hS : ∀ z, z < N → (S z = true ↔ ∃ x y, x < N ∧ y < N ∧ A x = true ∧ B y = true ∧ ad x y = z)) {b : Nat} (hb : b < N) (hB : B b = true) :
    cd N A + cd N B ≤ cd N S + cd N (stb N ad S) := by
  rcases kn_all G A B N (Nat.le_refl _) with h | ⟨C, h1, h2, h3⟩
  · rw [h b hb] at hB; cases hB
  · have e : ∀ z, z < N → C z = S z := fun z hz => by
      apply Bool.eq_iff_iff.2
      rw [hS z hz]
      constructor
      · exact h2 z hz
      · rintro ⟨x, y, hx, hy, hA, hB, rfl⟩
        exact h1 y hy hB x hx hA
    rw [← cd_congr e, ← cd_congr (fun x _ => stb_of G e x)]
    exact h3
/-- Kneser's theorem: A and B filled by the stabilizer of their sum. -/
theorem kneser {A B S FA FB : Nat → Bool} (hS : ∀ z, z < N → (S z = true ↔ ∃ x y, x < N ∧ y < N ∧ A x = true ∧ B y = true ∧ ad x y = z))
    (hFA : ∀ z, z < N → (FA z = true ↔ ∃ x y, x < N ∧ y < N ∧ A x = true ∧ stb N ad S y = true ∧ ad x y = z))
    (hFB : ∀ z, z < N → (FB z = true ↔ ∃ x y, x < N ∧ y < N ∧ B x = true ∧ stb N ad S y = true ∧ ad x y = z)) {b : Nat} (hb : b < N) (hB : B b = true) :
    cd N FA + cd N FB ≤ cd N S + cd N (stb N ad S) := by
  have hFb : FB b = true := (hFB b hb).2 ⟨b, 0, hb, G.pos, hB, stb_zero G S, G.zero b hb⟩
  refine kn_first G (A := FA) (B := FB) (S := S) (fun z hz => ?_) hb hFb
  rw [hS z hz]
  constructor
  · rintro ⟨x, y, hx, hy, hA, hB, e⟩
    exact ⟨x, y, hx, hy, (hFA x hx).2 ⟨x, 0, hx, G.pos, hA, stb_zero G S, G.zero x hx⟩, (hFB y hy).2 ⟨y, 0, hy, G.pos, hB, stb_zero G S, G.zero y hy⟩, e⟩
  · rintro ⟨x, y, hx, hy, hA, hB, e⟩
    obtain ⟨x1, u, hx1, hu, hA1, su, rfl⟩ := (hFA x hx).1 hA
    obtain ⟨y1, v, hy1, hv, hB1, sv, rfl⟩ := (hFB y hy).1 hB
    -- x1 + y1 is a sum, and z is it, shifted
    have h1 : S (ad x1 y1) = true := (hS _ (G.lt _ _)).2 ⟨x1, y1, hx1, hy1, hA1, hB1, rfl⟩
    have h2 := stb_iff.1 (stb_add G su sv) (ad x1 y1) (G.lt _ _)
    have e2 : ad (ad x1 y1) (ad u v) = z := by
      rw [← e, G.assoc x1 y1, ← G.assoc y1 u v, G.comm y1 u, G.assoc u y1 v, ← G.assoc x1 u]
    rw [e2, h1] at h2
    exact (hS z hz).1 h2
end
end Go.Proofs.YtaacofbmbpkeoaaDoor

namespace Go.Proofs.YtaacofbmbpkeoaaDoor
theorem cd_full : ∀ N, cd N (fun _ => true) = N
  | 0 => rfl
  | n + 1 => by
    have := cd_full n
    unfold cd at this ⊢
    simp only [sm]
    rw [this]
    rfl
theorem cd_single {N v : Nat} (h : v < N) : cd N (fun x => decide (v = x)) = 1 := by
  have e : cd N (fun x => decide (v = x)) = sm (fun s => if v = s then (fun _ => 1) s else 0) N := sm_congr (fun i _ => by
    by_cases g : v = i
    · simp [g]
    · simp [g])
  rw [e, sm_one, if_pos h]
theorem cd_le_one {N : Nat} {P : Nat → Bool} (h : ∀ x y, x < N → y < N → P x = true → P y = true → x = y) : cd N P ≤ 1 := by
  rcases Nat.eq_zero_or_pos (cd N P) with h0 | h0
  · omega
  · obtain ⟨v, hv, hp⟩ := cd_ex h0
    rw [← cd_single hv]
    exact cd_le (fun i hi hq => by simp [h v i hv hi hp hq])
theorem cd_uniq {N : Nat} {P : Nat → Bool} (h : cd N P ≤ 1) {x y : Nat} (hx : x < N) (hy : y < N) (px : P x = true) (py : P y = true) : x = y := by
  apply Classical.byContradiction
  intro hn
  have h1 := cd_split N P (fun z => decide (x = z))
  have h2 : 0 < cd N (fun i => P i && decide (x = i)) := cd_pos hx (by simp [px])
  have h3 : 0 < cd N (fun i => P i && !decide (x = i)) := cd_pos hy (by simp [py, hn])
  omega
theorem cd_not (N : Nat) (P : Nat → Bool) : cd N P + cd N (fun z => !P z) = N := by
  have h := cd_split N (fun _ => true) P
  simp only [Bool.true_and] at h
  rw [cd_full] at h
  exact h
/-- The sums of two sets. -/
def IsSum (N : Nat) (ad : Nat → Nat → Nat) (A B S : Nat → Bool) : Prop := ∀ z, z < N → (S z = true ↔ ∃ x y, x < N ∧ y < N ∧ A x = true ∧ B y = true ∧ ad x y = z)
def sumS (N : Nat) (ad : Nat → Nat → Nat) (ng : Nat → Nat) (A B : Nat → Bool) (z : Nat) : Bool := (List.range N).any fun x => A x && B (ad z (ng x))
/-- Each step but 0 reaches all. -/
def Whole (N : Nat) (ad : Nat → Nat → Nat) : Prop := ∀ (d : Nat) (C : Nat → Bool), d < N → d ≠ 0 → (∀ z, z < N → C z = true → C (ad z d) = true) → (∃ z, z < N ∧ C z = true) → ∀ z, z < N → C z = true
/-- How many elements of a set a step leads out of it. -/
def ends (N : Nat) (ad : Nat → Nat → Nat) (C : Nat → Bool) (d : Nat) : Nat := cd N (fun z => C z && !C (ad z d))
section
variable {N : Nat} {ad : Nat → Nat → Nat} {ng : Nat → Nat} (G : Abel N ad ng)
include G
theorem sumS_is (A B : Nat → Bool) : IsSum N ad A B (sumS N ad ng A B) := fun z hz => by
  unfold sumS
  rw [List.any_eq_true]
  constructor
  · rintro ⟨x, hx, h⟩
    rw [Bool.and_eq_true] at h
    exact ⟨x, ad z (ng x), List.mem_range.1 hx, G.lt _ _, h.1, h.2, by rw [G.comm]; exact ab_forth G x hz⟩
  · rintro ⟨x, y, hx, hy, hA, hB, e⟩
    refine ⟨x, List.mem_range.2 hx, ?_⟩
    rw [Bool.and_eq_true, ← e, G.comm x y, ab_back G x hy]
    exact ⟨hA, hB⟩
theorem isSum_comm {A B S : Nat → Bool} (h : IsSum N ad A B S) : IsSum N ad B A S := fun z hz => by
  rw [h z hz]
  constructor
  · rintro ⟨x, y, hx, hy, hA, hB, e⟩; exact ⟨y, x, hy, hx, hB, hA, by rw [G.comm]; exact e⟩
  · rintro ⟨x, y, hx, hy, hA, hB, e⟩; exact ⟨y, x, hy, hx, hB, hA, by rw [G.comm]; exact e⟩
theorem ng_ng {x : Nat} (hx : x < N) : ng (ng x) = x := by
  have h := ab_back G (x := x) (ng x) hx
  rw [G.neg, G.comm, G.zero _ (G.nlt _)] at h
  exact h
theorem ng_ad (x y : Nat) : ng (ad x y) = ad (ng x) (ng y) := by
  have h : ad (ad (ng x) (ng y)) (ad x y) = 0 := by
    rw [G.assoc, G.comm x y, ← G.assoc (ng y), G.comm (ng y) y, G.neg, G.comm 0 x, ← G.assoc, G.comm (ng x) x, G.neg, G.zero 0 G.pos]
  have h2 := ab_back G (x := ad (ng x) (ng y)) (ad x y) (G.lt _ _)
  rw [h, G.comm, G.zero _ (G.nlt _)] at h2
  exact h2
/-- Negatives keep sizes. -/
theorem cd_neg (Q : Nat → Bool) : cd N (fun z => Q (ng z)) = cd N Q := by
  unfold cd
  have e1 : sm (fun z => (Q (ng z)).toNat) N = sm (fun z => sm (fun y => if ng z = y then (Q y).toNat else 0) N) N := sm_congr (fun z _ => by
    rw [sm_one, if_pos (G.nlt z)])
  rw [e1, sm_swap]
  refine sm_congr (fun y hy => ?_)
  have e2 : sm (fun z => if ng z = y then (Q y).toNat else 0) N = sm (fun z => if ng y = z then (fun _ => (Q y).toNat) z else 0) N := sm_congr (fun z hz => by
    by_cases h : ng z = y
    · rw [if_pos h, if_pos (by rw [← h, ng_ng G hz])]
    · rw [if_neg h, if_neg (fun h2 => h (by rw [← h2, ng_ng G hy]))])
  rw [e2, sm_one, if_pos (G.nlt _)]
/-- What leads out of a set is as much as what leads in. -/
theorem flow (C : Nat → Bool) (d : Nat) : cd N (fun z => !C z && C (ad z d)) = ends N ad C d := by
  have h1 := cd_split N C (fun z => C (ad z d))
  have h2 := cd_split N (fun z => C (ad z d)) C
  have h3 := cd_shift G C d
  have e1 : cd N (fun z => C (ad z d) && C z) = cd N (fun z => C z && C (ad z d)) := cd_congr (fun _ _ => Bool.and_comm _ _)
  have e2 : cd N (fun z => C (ad z d) && !C z) = cd N (fun z => !C z && C (ad z d)) := cd_congr (fun _ _ => Bool.and_comm _ _)
  unfold ends
  omega
/-- The bound of Cauchy and Davenport. -/
theorem cd_dav (W : Whole N ad) {A B S : Nat → Bool} (hS : IsSum N ad A B S) (hA : 0 < cd N A) (hB : 0 < cd N B) : cd N S = N ∨ cd N A + cd N B ≤ cd N S + 1 := by
  obtain ⟨a, ha, hA⟩ := cd_ex hA
  obtain ⟨b, hb, hB⟩ := cd_ex hB
  have k := kn_first G hS hb hB
  by_cases h : ∃ d, d < N ∧ d ≠ 0 ∧ stb N ad S d = true
  · obtain ⟨d, hd, h0, hs⟩ := h
    left
    have w := W d S hd h0 (fun z hz h => by rw [stb_iff.1 hs z hz]; exact h) ⟨ad a b, G.lt _ _, (hS _ (G.lt _ _)).2 ⟨a, b, ha, hb, hA, hB, rfl⟩⟩
    rw [cd_congr (Q := fun _ => true) w, cd_full]
  · right
    have : cd N (stb N ad S) ≤ 1 := by
      rw [← cd_single G.pos]
      exact cd_le (fun i hi hp => by
        by_cases e : i = 0
        · simp [e]
        · exact absurd ⟨i, hi, e, hp⟩ h)
    omega
/-- A set beside one of one run has one run, if the sum is as small as it can be. -/
theorem vo_step (W : Whole N ad) {A B S : Nat → Bool} {d : Nat} (hS : IsSum N ad A B S) (hE : ends N ad A d ≤ 1) (hA : 2 ≤ cd N A) (hB : 0 < cd N B) (hs : cd N S + 1 ≤ cd N A + cd N B) (hN : cd N S < N) : ends N ad B d ≤ 1 := by
  have a1 := cd_split N A (fun z => A (ad z d))
  have hT := sumS_is G (fun z => A z && A (ad z d)) (fun z => B z || B (ad z (ng d)))
  have hsub : cd N (sumS N ad ng (fun z => A z && A (ad z d)) (fun z => B z || B (ad z (ng d)))) ≤ cd N S := cd_le (fun z hz h => by
    obtain ⟨x, y, hx, hy, h1, h2, e⟩ := (hT z hz).1 h
    rw [Bool.and_eq_true] at h1
    rw [Bool.or_eq_true] at h2
    rcases h2 with h2 | h2
    · exact (hS z hz).2 ⟨x, y, hx, hy, h1.1, h2, e⟩
    · refine (hS z hz).2 ⟨ad x d, ad y (ng d), G.lt _ _, G.lt _ _, h1.2, h2, ?_⟩
      rw [← e, G.assoc, G.comm d, ab_forth G d hy])
  have b1 := cd_or N B (fun z => B (ad z (ng d)))
  rw [cd_shift G B (ng d)] at b1
  have b2 := cd_split N B (fun z => B (ad z (ng d)))
  have b3 : cd N (fun z => B z && !B (ad z (ng d))) = ends N ad B d := by
    rw [← flow G B d, ← cd_shift G (fun z => B z && !B (ad z (ng d))) d]
    exact cd_congr (fun z hz => by
      show (B (ad z d) && !B (ad (ad z d) (ng d))) = _
      rw [ab_back G d hz, Bool.and_comm])
  have hE' : cd N (fun z => A z && !A (ad z d)) ≤ 1 := hE
  rcases cd_dav G W hT (by omega) (by omega) with h | h
  · omega
  · omega
/-- Both sets have one run, if their sum has. -/
theorem vo_sum (W : Whole N ad) {A B S : Nat → Bool} {d : Nat} (hS : IsSum N ad A B S) (hE : ends N ad S d ≤ 1) (hA : 0 < cd N A) (hB : 0 < cd N B) (hs : cd N S + 1 = cd N A + cd N B) (hN : cd N S + 2 ≤ N) : ends N ad B d ≤ 1 := by
  have d1 := cd_not N S
  have a1 := cd_not N A
  have hT := sumS_is G (fun z => !S z) (fun z => B (ng z))
  have hb := cd_neg G B
  have hED : ends N ad (fun z => !S z) d ≤ 1 := by
    have e : ends N ad (fun z => !S z) d = cd N (fun z => !S z && S (ad z d)) := cd_congr (fun z _ => by simp)
    rw [e, flow G S d]
    exact hE
  have hsub : cd N (sumS N ad ng (fun z => !S z) (fun z => B (ng z))) ≤ cd N (fun z => !A z) := cd_le (fun z hz h => by
    obtain ⟨x, y, hx, hy, h1, h2, e⟩ := (hT z hz).1 h
    cases hz2 : A z with
    | false => rfl
    | true =>
      have : S x = true := (hS x hx).2 ⟨z, ng y, hz, G.nlt _, hz2, h2, by rw [← e, ab_back G y hx]⟩
      have h1' : (!S x) = true := h1
      rw [this] at h1'
      cases h1')
  have key := vo_step G W hT hED (by omega) (by omega) (by omega) (by omega)
  have e1 : ends N ad (fun z => B (ng z)) d = cd N (fun w => B w && !B (ad w (ng d))) := by
    unfold ends
    rw [← cd_neg G (fun w => B w && !B (ad w (ng d)))]
    exact cd_congr (fun z _ => by show (B (ng z) && !B (ng (ad z d))) = _; rw [ng_ad G])
  have e2 : cd N (fun w => B w && !B (ad w (ng d))) = ends N ad B d := by
    rw [← flow G B d, ← cd_shift G (fun z => B z && !B (ad z (ng d))) d]
    exact cd_congr (fun z hz => by
      show (B (ad z d) && !B (ad (ad z d) (ng d))) = _
      rw [ab_back G d hz, Bool.and_comm])
  omega
/-- A sum of sets of one run has one run. -/
theorem vo_runs {A B S : Nat → Bool} {d : Nat} (hS : IsSum N ad A B S) (h1 : ends N ad A d ≤ 1) (h2 : ends N ad B d ≤ 1) : ends N ad S d ≤ 1 := by
  have lead : ∀ z, z < N → (S z && !S (ad z d)) = true → ∃ x y, x < N ∧ y < N ∧ (A x && !A (ad x d)) = true ∧ (B y && !B (ad y d)) = true ∧ ad x y = z := fun z hz h => by
    rw [Bool.and_eq_true] at h
    obtain ⟨x, y, hx, hy, hA, hB, e⟩ := (hS z hz).1 h.1
    have hno : S (ad z d) = false := by simpa using h.2
    refine ⟨x, y, hx, hy, ?_, ?_, e⟩
    · cases g : A (ad x d) with
      | false => rw [hA]; rfl
      | true =>
        have := (hS (ad z d) (G.lt _ _)).2 ⟨ad x d, y, G.lt _ _, hy, g, hB, by rw [← e, G.assoc, G.comm d y, ← G.assoc]⟩
        rw [this] at hno
        cases hno
    · cases g : B (ad y d) with
      | false => rw [hB]; rfl
      | true =>
        have := (hS (ad z d) (G.lt _ _)).2 ⟨x, ad y d, hx, G.lt _ _, hA, g, by rw [← e, G.assoc]⟩
        rw [this] at hno
        cases hno
  refine cd_le_one (fun u v hu hv pu pv => ?_)
  obtain ⟨x, y, hx, hy, a1, b1, e1⟩ := lead u hu pu
  obtain ⟨x', y', hx', hy', a2, b2, e2⟩ := lead v hv pv
  rw [← e1, ← e2, cd_uniq (P := fun z => A z && !A (ad z d)) h1 hx hx' a1 a2, cd_uniq (P := fun z => B z && !B (ad z d)) h2 hy hy' b1 b2]
/-- Vosper's theorem. -/
theorem vosper (W : Whole N ad) : ∀ (n : Nat) (A B S : Nat → Bool), cd N B ≤ n → 2 ≤ cd N A → 2 ≤ cd N B → IsSum N ad A B S → cd N S + 1 = cd N A + cd N B → cd N S + 2 ≤ N →
    ∃ d, d < N ∧ d ≠ 0 ∧ ends N ad A d ≤ 1 ∧ ends N ad B d ≤ 1
  | 0, _, _, _, hn, _, h2, _, _, _ => absurd hn (by omega)
  | n + 1, A, B, S, hn, hA, hB, hS, hs, hN => by
    obtain ⟨b, hb, hBb⟩ := cd_ex (N := N) (P := B) (by omega)
    have bs := cd_split N B (fun z => decide (b = z))
    have bone : cd N (fun z => B z && decide (b = z)) ≤ 1 := cd_le_one (fun x y _ _ hx hy => by
      simp only [Bool.and_eq_true, decide_eq_true_eq] at hx hy
      rw [← hx.2, ← hy.2])
    by_cases h2 : cd N B = 2
    · obtain ⟨c, hc, hBc⟩ := cd_ex (N := N) (P := fun z => B z && !decide (b = z)) (by omega)
      simp only [Bool.and_eq_true, Bool.not_eq_true', decide_eq_false_iff_not] at hBc
      have hstep : ad b (ad c (ng b)) = c := by rw [G.comm, ab_forth G b hc]
      have hE : ends N ad B (ad c (ng b)) ≤ 1 := by
        have s1 := cd_split N B (fun z => B (ad z (ad c (ng b))))
        have s2 : 0 < cd N (fun z => B z && B (ad z (ad c (ng b)))) := cd_pos hb (by rw [hstep, hBb, hBc.1]; rfl)
        unfold ends
        omega
      refine ⟨ad c (ng b), G.lt _ _, fun h0 => ?_, ?_, hE⟩
      · rw [h0, G.zero b hb] at hstep
        exact hBc.2 hstep
      · exact vo_step G W (isSum_comm G hS) hE hB (by omega) (by omega) (by omega)
    -- the sets that a transform makes
    have hsum : ∀ e, cd N (fun z => A z || B (ad z (ng e))) + cd N (fun z => B z && A (ad z e)) = cd N A + cd N B := fun e => by
      have c1 := cd_or N A (fun z => B (ad z (ng e)))
      rw [cd_shift G B (ng e)] at c1
      have c2 : cd N (fun z => A z && B (ad z (ng e))) = cd N (fun z => B z && A (ad z e)) := by
        rw [← cd_shift G (fun z => A z && B (ad z (ng e))) e]
        exact cd_congr (fun z hz => by rw [ab_back G e hz, Bool.and_comm])
      rw [c2] at c1
      exact c1
    by_cases hex : ∃ a, a < N ∧ A a = true ∧ 2 ≤ cd N (fun z => B z && A (ad z (ad a (ng b)))) ∧ cd N (fun z => B z && A (ad z (ad a (ng b)))) < cd N B
    · obtain ⟨a, ha, hAa, g2, gl⟩ := hex
      generalize hee : ad a (ng b) = e at *
      have hT := sumS_is G (fun z => A z || B (ad z (ng e))) (fun z => B z && A (ad z e))
      have hsub : ∀ z, z < N → sumS N ad ng (fun z => A z || B (ad z (ng e))) (fun z => B z && A (ad z e)) z = true → S z = true := fun z hz h => by
        obtain ⟨x, y, hx, hy, h1, h2, e1⟩ := (hT z hz).1 h
        rw [Bool.or_eq_true] at h1
        rw [Bool.and_eq_true] at h2
        rcases h1 with h1 | h1
        · exact (hS z hz).2 ⟨x, y, hx, hy, h1, h2.1, e1⟩
        · refine (hS z hz).2 ⟨ad y e, ad x (ng e), G.lt _ _, G.lt _ _, h2.2, h1, ?_⟩
          rw [← e1, G.assoc, G.comm e, ab_forth G e hx, G.comm]
      have hle := cd_le hsub
      have hbig : cd N A ≤ cd N (fun z => A z || B (ad z (ng e))) := cd_le (fun z _ h => by rw [h]; rfl)
      have hse := hsum e
      have heq : cd N S ≤ cd N (sumS N ad ng (fun z => A z || B (ad z (ng e))) (fun z => B z && A (ad z e))) := by
        rcases cd_dav G W hT (by omega) (by omega) with h | h
        · omega
        · omega
      have hsame := cd_same hsub heq
      have hS2 : IsSum N ad (fun z => A z || B (ad z (ng e))) (fun z => B z && A (ad z e)) S := fun z hz => by rw [← hsame z hz]; exact hT z hz
      obtain ⟨d, hd, hd0, e1, e2⟩ := vosper W n _ _ S (by omega) (by omega) g2 hS2 (by omega) hN
      have e3 := vo_runs G hS2 e1 e2
      exact ⟨d, hd, hd0, vo_sum G W (isSum_comm G hS) e3 (by omega) (by omega) (by omega) hN, vo_sum G W hS e3 (by omega) (by omega) hs hN⟩
    · exfalso
      -- E: only b stays; X: all of B fits
      have sp := cd_split N A (fun a => decide (cd N (fun z => B z && A (ad z (ad a (ng b)))) ≤ 1))
      have hX : ∀ a, a < N → (A a && !decide (cd N (fun z => B z && A (ad z (ad a (ng b)))) ≤ 1)) = true → ∀ y, y < N → B y = true → A (ad y (ad a (ng b))) = true := fun a ha h y hy hBy => by
        simp only [Bool.and_eq_true, Bool.not_eq_true', decide_eq_false_iff_not] at h
        have hle : cd N B ≤ cd N (fun z => B z && A (ad z (ad a (ng b)))) := by
          apply Classical.byContradiction
          intro hlt
          exact hex ⟨a, ha, h.1, by omega, by omega⟩
        have := cd_same (P := fun z => B z && A (ad z (ad a (ng b)))) (Q := B) (fun z _ h => (Bool.and_eq_true_iff.1 h).1) hle y hy
        rw [hBy] at this
        exact (Bool.and_eq_true_iff.1 this).2
      have tX : 0 < cd N (fun a => A a && !decide (cd N (fun z => B z && A (ad z (ad a (ng b)))) ≤ 1)) → cd N (fun a => A a && !decide (cd N (fun z => B z && A (ad z (ad a (ng b)))) ≤ 1)) + cd N B ≤ cd N A + 1 := fun h0 => by
        have hT := sumS_is G (fun a => A a && !decide (cd N (fun z => B z && A (ad z (ad a (ng b)))) ≤ 1)) B
        have hsub : cd N (sumS N ad ng (fun a => A a && !decide (cd N (fun z => B z && A (ad z (ad a (ng b)))) ≤ 1)) B) ≤ cd N A := by
          rw [← cd_shift G A (ng b)]
          refine cd_le (fun z hz h => ?_)
          obtain ⟨x, y, hx, hy, h1, h2, e1⟩ := (hT z hz).1 h
          have := hX x hx h1 y hy h2
          rw [← e1, G.comm x y, G.assoc]
          exact this
        rcases cd_dav G W hT h0 (by omega) with h | h
        · omega
        · omega
      have tE : 0 < cd N (fun a => A a && decide (cd N (fun z => B z && A (ad z (ad a (ng b)))) ≤ 1)) → cd N (fun a => A a && decide (cd N (fun z => B z && A (ad z (ad a (ng b)))) ≤ 1)) ≤ 1 := fun h0 => by
        have hT := sumS_is G (fun a => A a && decide (cd N (fun z => B z && A (ad z (ad a (ng b)))) ≤ 1)) (fun z => B z && !decide (b = z))
        have hsub : cd N (sumS N ad ng (fun a => A a && decide (cd N (fun z => B z && A (ad z (ad a (ng b)))) ≤ 1)) (fun z => B z && !decide (b = z))) ≤ cd N (fun z => S z && !A (ad z (ng b))) := cd_le (fun z hz h => by
          obtain ⟨x, y, hx, hy, h1, h2, e1⟩ := (hT z hz).1 h
          simp only [Bool.and_eq_true, Bool.not_eq_true', decide_eq_false_iff_not, decide_eq_true_eq] at h1 h2
          have hSz := (hS z hz).2 ⟨x, y, hx, hy, h1.1, h2.1, e1⟩
          cases g : A (ad z (ng b)) with
          | false => rw [hSz]; rfl
          | true =>
            rw [← e1, G.comm x y, G.assoc] at g
            refine absurd (cd_uniq h1.2 hb hy ?_ ?_) h2.2
            · show (B b && A (ad b (ad x (ng b)))) = true
              rw [G.comm b, ab_forth G b hx, hBb, h1.1]
              rfl
            · show (B y && A (ad y (ad x (ng b)))) = true
              rw [h2.1, g]
              rfl)
        have s1 := cd_split N S (fun z => A (ad z (ng b)))
        have s2 : cd N A ≤ cd N (fun z => S z && A (ad z (ng b))) := by
          rw [← cd_shift G A (ng b)]
          refine cd_le (fun z hz h => ?_)
          have : S z = true := (hS z hz).2 ⟨ad z (ng b), b, G.lt _ _, hb, h, hBb, ab_forth G b hz⟩
          rw [this]
          exact h
        rcases cd_dav G W hT h0 (by omega) with h | h
        · omega
        · omega
      omega
end
/-- Steps from an element on. -/
def stp (ad : Nat → Nat → Nat) (d x : Nat) : Nat → Nat
  | 0 => x
  | i + 1 => ad (stp ad d x i) d
theorem stp_add (ad : Nat → Nat → Nat) (d : Nat) {x y : Nat} (i j : Nat) (h : stp ad d x i = stp ad d y j) : ∀ k, stp ad d x (i + k) = stp ad d y (j + k)
  | 0 => h
  | k + 1 => by
    show ad (stp ad d x (i + k)) d = ad (stp ad d y (j + k)) d
    rw [stp_add ad d i j h k]
theorem least_false {P : Nat → Bool} : ∀ (n i : Nat), i < n → P i = false → ∃ m, P m = false ∧ ∀ j, j < m → P j = true
  | 0, i, hi, _ => absurd hi (by omega)
  | n + 1, i, hi, h => by
    by_cases g : ∃ j, j < i ∧ P j = false
    · obtain ⟨j, hj, hp⟩ := g
      exact least_false n j (by omega) hp
    · exact ⟨i, h, fun j hj => by
        cases e : P j with
        | true => rfl
        | false => exact absurd ⟨j, hj, e⟩ g⟩
theorem cd_steps {N : Nat} {f : Nat → Nat} (hf : ∀ i, f i < N) : ∀ m, (∀ i j, i < j → j < m → f i ≠ f j) → cd N (fun z => (List.range m).any fun i => f i == z) = m
  | 0, _ => by
    have : cd N (fun z => (List.range 0).any fun i => f i == z) = cd N (fun _ => false) := cd_congr (fun z _ => by simp)
    rw [this]
    exact sm_zero N
  | m + 1, h => by
    have ih := cd_steps hf m (fun i j hij hj => h i j hij (by omega))
    have e := cd_or N (fun z => (List.range m).any fun i => f i == z) (fun z => decide (f m = z))
    rw [ih, cd_single (hf m)] at e
    have e2 : cd N (fun z => ((List.range m).any fun i => f i == z) && decide (f m = z)) = 0 := by
      rcases Nat.eq_zero_or_pos (cd N (fun z => ((List.range m).any fun i => f i == z) && decide (f m = z))) with g | g
      · exact g
      · obtain ⟨z, _, hz⟩ := cd_ex g
        rw [Bool.and_eq_true, List.any_eq_true] at hz
        obtain ⟨⟨i, hi, h1⟩, h2⟩ := hz
        exact absurd ((beq_iff_eq.1 h1).trans (of_decide_eq_true h2).symm) (h i m (List.mem_range.1 hi) (by omega))
    have e3 : cd N (fun z => (List.range (m + 1)).any fun i => f i == z) = cd N (fun z => ((List.range m).any fun i => f i == z) || decide (f m = z)) := cd_congr (fun z _ => by
      rw [List.range_succ, List.any_append]
      congr 1
      by_cases g : f m = z
      · simp [g]
      · simp [g])
    omega
section
variable {N : Nat} {ad : Nat → Nat → Nat} {ng : Nat → Nat} (G : Abel N ad ng)
include G
/-- A set of one run is made of steps. -/
theorem run_list (W : Whole N ad) {C : Nat → Bool} {d : Nat} (hd : d < N) (h0 : d ≠ 0) (hE : ends N ad C d ≤ 1) (hC : 0 < cd N C) (hN : cd N C < N) :
    ∃ x, x < N ∧ C x = true ∧ ∀ z, z < N → (C z = true ↔ ∃ i, i < cd N C ∧ stp ad d x i = z) := by
  obtain ⟨c, hc, hCc⟩ := cd_ex hC
  have hout : ∃ u, u < N ∧ C u = false := by
    obtain ⟨u, hu, hp⟩ := cd_ex (N := N) (P := fun z => !C z) (by have := cd_not N C; omega)
    exact ⟨u, hu, by simpa using hp⟩
  obtain ⟨u, hu, hCu⟩ := hout
  have hst : 0 < cd N (fun z => !C z && C (ad z d)) := by
    rw [flow G]
    rcases Nat.eq_zero_or_pos (ends N ad C d) with g | g
    · have : ∀ z, z < N → C z = true → C (ad z d) = true := fun z hz h => by
        cases e : C (ad z d) with
        | true => rfl
        | false =>
          have := cd_pos (P := fun z => C z && !C (ad z d)) hz (by show (C z && !C (ad z d)) = true; rw [h, e]; rfl)
          unfold ends at g
          omega
      have w := W d C hd h0 this ⟨c, hc, hCc⟩ u hu
      rw [hCu] at w
      cases w
    · exact g
  obtain ⟨w, hw, hp⟩ := cd_ex hst
  simp only [Bool.and_eq_true, Bool.not_eq_true'] at hp
  obtain ⟨x, hx⟩ : ∃ x, ad w d = x := ⟨_, rfl⟩
  have hxN : x < N := by rw [← hx]; exact G.lt _ _
  have hCx : C x = true := by rw [← hx]; exact hp.2
  have hstpN : ∀ i, stp ad d x i < N := fun i => by
    cases i with
    | zero => exact hxN
    | succ i => exact G.lt _ _
  -- the first step out of C
  have hfin : ∃ i, C (stp ad d x i) = false := by
    have dec : ∀ z, Decidable (∃ i, stp ad d x i = z) := fun _ => Classical.propDecidable _
    have all := W d (fun z => decide (∃ i, stp ad d x i = z)) hd h0 (fun z _ h => by
      obtain ⟨i, hi⟩ := of_decide_eq_true h
      exact decide_eq_true ⟨i + 1, by show ad (stp ad d x i) d = _; rw [hi]⟩) ⟨x, hxN, decide_eq_true ⟨0, rfl⟩⟩ u hu
    obtain ⟨i, hi⟩ := of_decide_eq_true all
    exact ⟨i, by rw [hi]; exact hCu⟩
  obtain ⟨i0, hi0⟩ := hfin
  obtain ⟨m, hm, hlt⟩ := least_false (P := fun i => C (stp ad d x i)) (i0 + 1) i0 (by omega) hi0
  have hm0 : m ≠ 0 := fun e => by
    subst e
    have : C x = false := hm
    rw [hCx] at this
    cases this
  obtain ⟨k, rfl⟩ : ∃ k, m = k + 1 := ⟨m - 1, by omega⟩
  have hend : (C (stp ad d x k) && !C (ad (stp ad d x k) d)) = true := by
    have h1 : C (stp ad d x k) = true := hlt k (by omega)
    have h2 : C (ad (stp ad d x k) d) = false := hm
    rw [h1, h2]
    rfl
  have hall : ∀ z, z < N → C z = true → ((List.range (k + 1)).any fun i => stp ad d x i == z) = true := fun z hz hCz => by
    cases g : (List.range (k + 1)).any fun i => stp ad d x i == z with
    | true => rfl
    | false =>
      exfalso
      have key := W d (fun z => C z && !((List.range (k + 1)).any fun i => stp ad d x i == z)) hd h0 (fun z hz h => by
        simp only [Bool.and_eq_true, Bool.not_eq_true'] at h
        have hn : ∀ i, i < k + 1 → stp ad d x i ≠ z := fun i hi e => by
          have : ((List.range (k + 1)).any fun i => stp ad d x i == z) = true := List.any_eq_true.2 ⟨i, List.mem_range.2 hi, by simp [e]⟩
          rw [this] at h
          cases h.2
        have h1 : C (ad z d) = true := by
          cases g2 : C (ad z d) with
          | true => rfl
          | false =>
            exact absurd (cd_uniq (P := fun z => C z && !C (ad z d)) hE (hstpN k) hz hend (by show (C z && !C (ad z d)) = true; rw [h.1, g2]; rfl)) (hn k (by omega))
        show (C (ad z d) && !((List.range (k + 1)).any fun i => stp ad d x i == ad z d)) = true
        rw [h1]
        cases g3 : (List.range (k + 1)).any fun i => stp ad d x i == ad z d with
        | false => rfl
        | true =>
          exfalso
          obtain ⟨i, hi, e⟩ := List.any_eq_true.1 g3
          have hi := List.mem_range.1 hi
          have e : stp ad d x i = ad z d := beq_iff_eq.1 e
          cases i with
          | zero =>
            have e' : ad w d = ad z d := by rw [hx]; exact e
            have : w = z := by rw [← ab_back G d hw, e', ab_back G d hz]
            rw [this, h.1] at hp
            cases hp.1
          | succ j =>
            have e' : ad (stp ad d x j) d = ad z d := e
            have : stp ad d x j = z := by rw [← ab_back G d (hstpN j), e', ab_back G d hz]
            exact hn j (by omega) this) ⟨z, hz, by rw [hCz, g]; rfl⟩ x hxN
      simp only [Bool.and_eq_true, Bool.not_eq_true'] at key
      have : ((List.range (k + 1)).any fun i => stp ad d x i == x) = true := List.any_eq_true.2 ⟨0, List.mem_range.2 (by omega), by simp [stp]⟩
      rw [this] at key
      cases key.2
  have hdis : ∀ i j, i < j → j < k + 1 → stp ad d x i ≠ stp ad d x j := fun i j hij hj e => by
    have h1 := stp_add ad d i j e (k + 1 - j)
    have h2 : C (stp ad d x (i + (k + 1 - j))) = true := hlt _ (by omega)
    have h3 : j + (k + 1 - j) = k + 1 := by omega
    rw [h1, h3] at h2
    have h4 : C (stp ad d x (k + 1)) = false := hm
    rw [h4] at h2
    cases h2
  have hcd : cd N C = k + 1 := by
    rw [← cd_steps hstpN (k + 1) hdis]
    refine cd_congr (fun z hz => ?_)
    apply Bool.eq_iff_iff.2
    constructor
    · exact hall z hz
    · intro h
      obtain ⟨i, hi, e⟩ := List.any_eq_true.1 h
      rw [← beq_iff_eq.1 e]
      exact hlt i (List.mem_range.1 hi)
  refine ⟨x, hxN, hCx, fun z hz => ?_⟩
  rw [hcd]
  constructor
  · intro h
    obtain ⟨i, hi, e⟩ := List.any_eq_true.1 (hall z hz h)
    exact ⟨i, List.mem_range.1 hi, beq_iff_eq.1 e⟩
  · rintro ⟨i, hi, rfl⟩
    exact hlt i hi
end
end Go.Proofs.YtaacofbmbpkeoaaDoor

namespace Go.Proofs.YtaacofbmbpkeoaaDoor
section
variable {N : Nat} {ad : Nat → Nat → Nat} {ng : Nat → Nat} (G : Abel N ad ng)
include G
/-- What a subgroup keeps has a multiple of its size. -/
theorem lagr {H : Nat → Bool} (hadd : ∀ x y, x < N → y < N → H x = true → H y = true → H (ad x y) = true) (hneg : ∀ x, x < N → H x = true → H (ng x) = true) (h0 : H 0 = true) :
    ∀ (n : Nat) (C : Nat → Bool), cd N C ≤ n → (∀ z h, z < N → h < N → C z = true → H h = true → C (ad z h) = true) → cd N H ∣ cd N C
  | 0, C, hn, _ => by
    have : cd N C = 0 := by omega
    rw [this]
    exact Nat.dvd_zero _
  | n + 1, C, hn, hC => by
    rcases Nat.eq_zero_or_pos (cd N C) with g | g
    · rw [g]; exact Nat.dvd_zero _
    obtain ⟨x, hx, hCx⟩ := cd_ex g
    have sp := cd_split N C (fun z => H (ad z (ng x)))
    have e : cd N (fun z => C z && H (ad z (ng x))) = cd N H := by
      rw [← cd_shift G H (ng x)]
      refine cd_congr (fun z hz => ?_)
      cases hh : H (ad z (ng x)) with
      | false => simp
      | true =>
        have := hC x (ad z (ng x)) hx (G.lt _ _) hCx hh
        rw [G.comm, ab_forth G x hz] at this
        rw [this]
        rfl
    have hp := cd_pos G.pos h0
    have ih := lagr hadd hneg h0 n (fun z => C z && !H (ad z (ng x))) (by omega) (fun z h hz hh h1 h2 => by
      simp only [Bool.and_eq_true, Bool.not_eq_true'] at h1 ⊢
      refine ⟨hC z h hz hh h1.1 h2, ?_⟩
      cases g2 : H (ad (ad z h) (ng x)) with
      | false => rfl
      | true =>
        have h3 := hadd _ _ (G.lt _ _) (G.nlt _) g2 (hneg h hh h2)
        have e3 : ad (ad (ad z h) (ng x)) (ng h) = ad z (ng x) := by
          rw [G.assoc z h, G.comm h, ← G.assoc z, ab_back G h (G.lt _ _)]
        rw [e3, h1.2] at h3
        cases h3)
    rw [← sp, e]
    exact Nat.dvd_add (Nat.dvd_refl _) ih
theorem stb_dvd (C : Nat → Bool) : cd N (stb N ad C) ∣ N := by
  have h := lagr G (H := stb N ad C) (fun x y _ _ hx hy => stb_add G hx hy) (fun x _ hx => stb_neg G hx) (stb_zero G C) N (fun _ => true) (by rw [cd_full]; exact Nat.le_refl _) (fun _ _ _ _ _ _ => rfl)
  rw [cd_full] at h
  exact h
theorem stb_le {C : Nat → Bool} {x : Nat} (hx : x < N) (hC : C x = true) : cd N (stb N ad C) ≤ cd N C :=
  part_size G hx hC (fun y z hy _ h1 h2 => by rw [stb_iff.1 h2 y hy]; exact h1)
/-- What all keep is all. -/
theorem stb_all {C : Nat → Bool} (h : N ≤ cd N (stb N ad C)) {x : Nat} (hx : x < N) (hC : C x = true) : N ≤ cd N C := Nat.le_trans h (stb_le G hx hC)
/-- In a group of prime order each step reaches all. -/
theorem whole_prime (hP : ∀ k, k ∣ N → k = 1 ∨ k = N) : Whole N ad := fun d C hd h0 hC ⟨x, hx, hCx⟩ z hz => by
  have hs : stb N ad C d = true := by
    have same := cd_same (P := C) (Q := fun z => C (ad z d)) hC (by rw [cd_shift G C d]; exact Nat.le_refl _)
    exact stb_iff.2 (fun z hz => (same z hz).symm)
  have h2 : cd N (stb N ad C) ≠ 1 := fun e => h0 (cd_uniq (by omega) hd G.pos hs (stb_zero G C))
  have h3 : cd N (stb N ad C) = N := (hP _ (stb_dvd G C)).resolve_left h2
  have h4 := cd_same (P := C) (Q := fun _ => true) (fun _ _ _ => rfl) (by rw [cd_full]; exact stb_all G (by omega) hx hCx) z hz
  exact h4
/-- Cauchy's bound. -/
theorem cauchy {A B S : Nat → Bool} (hS : IsSum N ad A B S) (hA : 0 < cd N A) (hB : 0 < cd N B) {p : Nat} (hp : ∀ k, k ∣ N → 2 ≤ k → p ≤ k) : p ≤ cd N S ∨ cd N A + cd N B ≤ cd N S + 1 := by
  obtain ⟨a, ha, hA⟩ := cd_ex hA
  obtain ⟨b, hb, hB⟩ := cd_ex hB
  have k := kn_first G hS hb hB
  have hS0 : S (ad a b) = true := (hS _ (G.lt _ _)).2 ⟨a, b, ha, hb, hA, hB, rfl⟩
  have h1 := stb_le G (G.lt _ _) hS0
  by_cases g : 2 ≤ cd N (stb N ad S)
  · exact .inl (Nat.le_trans (hp _ (stb_dvd G S) g) h1)
  · exact .inr (by omega)
/-- Chowla's bound. -/
theorem chowla {A B S FA FB : Nat → Bool} (hS : IsSum N ad A B S) (hFA : IsSum N ad A (stb N ad S) FA) (hFB : IsSum N ad B (stb N ad S) FB)
    (hA : 0 < cd N A) (hB : B 0 = true) (ho : ∀ b, b < N → B b = true → b ≠ 0 → ∀ i j, i < j → j < N → stp ad b 0 i ≠ stp ad b 0 j) : N ≤ cd N S ∨ cd N A + cd N B ≤ cd N S + 1 := by
  obtain ⟨a, ha, hA⟩ := cd_ex hA
  have k := kneser G hS hFA hFB G.pos hB
  have hS0 : S (ad a 0) = true := (hS _ (G.lt _ _)).2 ⟨a, 0, ha, G.pos, hA, hB, rfl⟩
  by_cases hex : ∃ b, b < N ∧ B b = true ∧ b ≠ 0 ∧ stb N ad S b = true
  · obtain ⟨b, hb, hBb, hb0, hs⟩ := hex
    left
    have hstp : ∀ i, stp ad b 0 i < N := fun i => by
      cases i with
      | zero => exact G.pos
      | succ i => exact G.lt _ _
    have hin : ∀ i, stb N ad S (stp ad b 0 i) = true := fun i => by
      induction i with
      | zero => exact stb_zero G S
      | succ i ih => exact stb_add G ih hs
    refine stb_all G ?_ (G.lt _ _) hS0
    have e := cd_steps hstp N (ho b hb hBb hb0)
    rw [← e]
    refine Nat.le_trans (cd_le (Q := stb N ad S) (fun z _ h => ?_)) (by rw [e]; exact Nat.le_refl _)
    obtain ⟨i, _, h⟩ := List.any_eq_true.1 h
    rw [← beq_iff_eq.1 h]
    exact hin i
  · right
    have c1 : cd N A ≤ cd N FA := cd_le (fun x hx h => (hFA x hx).2 ⟨x, 0, hx, G.pos, h, stb_zero G S, G.zero x hx⟩)
    have c2 : cd N (fun z => B z || stb N ad S z) ≤ cd N FB := cd_le (fun x hx h => by
      rw [Bool.or_eq_true] at h
      rcases h with h | h
      · exact (hFB x hx).2 ⟨x, 0, hx, G.pos, h, stb_zero G S, G.zero x hx⟩
      · exact (hFB x hx).2 ⟨0, x, G.pos, hx, hB, h, by rw [G.comm]; exact G.zero x hx⟩)
    have c3 := cd_or N B (stb N ad S)
    have c4 : cd N (fun z => B z && stb N ad S z) ≤ 1 := cd_le_one (fun x y hx hy h1 h2 => by
      rw [Bool.and_eq_true] at h1 h2
      have ex : x = 0 := Classical.byContradiction (fun h => hex ⟨x, hx, h1.1, h, h1.2⟩)
      have ey : y = 0 := Classical.byContradiction (fun h => hex ⟨y, hy, h2.1, h, h2.2⟩)
      rw [ex, ey])
    have e1 : cd N (fun i => B i || stb N ad S i) = cd N (fun z => B z || stb N ad S z) := rfl
    omega
end
/-- The bound of Cauchy and Schwarz, by induction: twice a product is at most the sum of the squares. -/
theorem two_mul_le (x y : Nat) : 2 * (x * y) ≤ x * x + y * y := by
  rcases Nat.le_total x y with h | h
  · obtain ⟨k, rfl⟩ : ∃ k, y = x + k := ⟨y - x, by omega⟩
    have e : (x + k) * (x + k) = x * x + 2 * (x * k) + k * k := by rw [Nat.add_mul, Nat.mul_add, Nat.mul_add, Nat.mul_comm k x]; omega
    rw [e, Nat.mul_add]
    omega
  · obtain ⟨k, rfl⟩ : ∃ k, x = y + k := ⟨x - y, by omega⟩
    have e : (y + k) * (y + k) = y * y + 2 * (y * k) + k * k := by rw [Nat.add_mul, Nat.mul_add, Nat.mul_add, Nat.mul_comm k y]; omega
    rw [e, Nat.add_mul, Nat.mul_comm k y]
    omega
theorem schwarz (f : Nat → Nat) : ∀ n, sm f n * sm f n ≤ sm (fun i => (decide (0 < f i)).toNat) n * sm (fun i => f i * f i) n ∧ ∀ v, 2 * (v * sm f n) ≤ sm (fun i => (decide (0 < f i)).toNat) n * (v * v) + sm (fun i => f i * f i) n
  | 0 => ⟨Nat.le_refl _, fun v => by simp [sm]⟩
  | n + 1 => by
    obtain ⟨h1, h2⟩ := schwarz f n
    simp only [sm]
    generalize sm f n = s at *
    generalize sm (fun i => (decide (0 < f i)).toNat) n = k at *
    generalize sm (fun i => f i * f i) n = q at *
    rcases Nat.eq_zero_or_pos (f n) with e | e
    · rw [e]
      simp only [Nat.lt_irrefl, decide_false, Bool.toNat_false, Nat.add_zero, Nat.mul_zero]
      exact ⟨h1, h2⟩
    · have ed : (decide (0 < f n)).toNat = 1 := by rw [decide_eq_true e]; rfl
      rw [ed]
      generalize f n = x at *
      have hx := h2 x
      refine ⟨?_, fun v => ?_⟩
      · have e1 : (s + x) * (s + x) = s * s + 2 * (x * s) + x * x := by rw [Nat.add_mul, Nat.mul_add, Nat.mul_add, Nat.mul_comm s x]; omega
        have e2 : (k + 1) * (q + x * x) = k * q + k * (x * x) + q + x * x := by rw [Nat.add_mul, Nat.mul_add, Nat.one_mul]; omega
        rw [e1, e2]
        omega
      · have e1 : 2 * (v * (s + x)) = 2 * (v * s) + 2 * (v * x) := by rw [Nat.mul_add, Nat.mul_add]
        have e2 : (k + 1) * (v * v) = k * (v * v) + v * v := by rw [Nat.add_mul, Nat.one_mul]
        have := h2 v
        have := two_mul_le v x
        rw [e1, e2]
        omega
end Go.Proofs.YtaacofbmbpkeoaaDoor

namespace Go.Proofs.YtaacofbmbpkeoaaDoor
theorem sm_mulr (f : Nat → Nat) (c : Nat) (n : Nat) : sm f n * c = sm (fun i => f i * c) n := by
  rw [Nat.mul_comm, ← sm_mul]
  exact sm_congr (fun i _ => Nat.mul_comm _ _)
theorem sm_prod (f g : Nat → Nat) (n : Nat) : sm f n * sm g n = sm (fun i => sm (fun j => f i * g j) n) n := by
  rw [sm_mulr]
  exact sm_congr (fun i _ => (sm_mul (f i) g n).symm)
/-- How many pairs of A and B have the sum s. -/
def cor (N : Nat) (ad : Nat → Nat → Nat) (ng : Nat → Nat) (A B : Nat → Bool) (s : Nat) : Nat := sm (fun x => (A x).toNat * (B (ad s (ng x))).toNat) N
section
variable {N : Nat} {ad : Nat → Nat → Nat} {ng : Nat → Nat} (G : Abel N ad ng)
include G
theorem sm_shift (f : Nat → Nat) (t : Nat) : sm (fun z => f (ad z t)) N = sm f N := by
  have e1 : sm (fun z => f (ad z t)) N = sm (fun z => sm (fun y => if ad z t = y then f y else 0) N) N := sm_congr (fun z _ => by
    rw [sm_one, if_pos (G.lt z t)])
  rw [e1, sm_swap]
  refine sm_congr (fun y hy => ?_)
  have e2 : sm (fun z => if ad z t = y then f y else 0) N = sm (fun z => if ad y (ng t) = z then (fun _ => f y) z else 0) N := sm_congr (fun z hz => by
    by_cases h : ad z t = y
    · rw [if_pos h, if_pos ((ab_move G hz hy).1 h)]
    · rw [if_neg h, if_neg (fun h2 => h ((ab_move G hz hy).2 h2))])
  rw [e2, sm_one, if_pos (G.lt _ _)]
theorem sm_neg (f : Nat → Nat) : sm (fun z => f (ng z)) N = sm f N := by
  have e1 : sm (fun z => f (ng z)) N = sm (fun z => sm (fun y => if ng z = y then f y else 0) N) N := sm_congr (fun z _ => by
    rw [sm_one, if_pos (G.nlt z)])
  rw [e1, sm_swap]
  refine sm_congr (fun y hy => ?_)
  have e2 : sm (fun z => if ng z = y then f y else 0) N = sm (fun z => if ng y = z then (fun _ => f y) z else 0) N := sm_congr (fun z hz => by
    by_cases h : ng z = y
    · rw [if_pos h, if_pos (by rw [← h, ng_ng G hz])]
    · rw [if_neg h, if_neg (fun h2 => h (by rw [← h2, ng_ng G hy]))])
  rw [e2, sm_one, if_pos (G.nlt _)]
/-- The counts add up to the product of the sizes. -/
theorem cor_total (A B : Nat → Bool) : sm (cor N ad ng A B) N = cd N A * cd N B := by
  unfold cor
  rw [sm_swap]
  have e : ∀ x, sm (fun s => (A x).toNat * (B (ad s (ng x))).toNat) N = (A x).toNat * cd N B := fun x => by
    rw [sm_mul, ← cd_shift G B (ng x)]
    rfl
  rw [sm_congr (fun x _ => e x), ← sm_mulr]
  rfl
theorem diff_back (x i : Nat) (hx : x < N) : ng (ad i (ng x)) = ad x (ng i) := by
  rw [ng_ad G, ng_ng G hx, G.comm]
theorem diff_twice {x y : Nat} (hy : y < N) : ad x (ng (ad x (ng y))) = y := by
  rw [ng_ad G, ng_ng G hy, ← G.assoc, G.neg, G.comm, G.zero y hy]
/-- The counts of differences. -/
def corK (N : Nat) (ad : Nat → Nat → Nat) (B : Nat → Bool) (d : Nat) : Nat := sm (fun y => (B y).toNat * (B (ad y d)).toNat) N
theorem cor_diff (B : Nat → Bool) (i : Nat) : cor N ad ng B (fun z => B (ng z)) i = corK N ad B i := by
  unfold cor corK
  rw [← sm_shift G (fun x => (B x).toNat * (B (ng (ad i (ng x)))).toNat) i]
  refine sm_congr (fun y hy => ?_)
  show (B (ad y i)).toNat * (B (ng (ad i (ng (ad y i))))).toNat = _
  rw [diff_back G _ _ (G.lt _ _), ab_back G i hy, Nat.mul_comm]
/-- Pairs with one sum are as many as pairs with one difference. -/
theorem cor_sq (A B : Nat → Bool) : sm (fun s => cor N ad ng A B s * cor N ad ng A B s) N = sm (fun i => cor N ad ng A (fun z => A (ng z)) i * cor N ad ng B (fun z => B (ng z)) i) N := by
  have mid1 : sm (fun s => cor N ad ng A B s * cor N ad ng A B s) N = sm (fun x => sm (fun y => (A x).toNat * (A y).toNat * corK N ad B (ad x (ng y))) N) N := by
    have e1 : ∀ s, cor N ad ng A B s * cor N ad ng A B s = sm (fun x => sm (fun y => ((A x).toNat * (B (ad s (ng x))).toNat) * ((A y).toNat * (B (ad s (ng y))).toNat)) N) N := fun s => sm_prod _ _ N
    rw [sm_congr (fun s _ => e1 s), sm_swap]
    refine sm_congr (fun x _ => ?_)
    rw [sm_swap]
    refine sm_congr (fun y _ => ?_)
    have e2 : ∀ s, ((A x).toNat * (B (ad s (ng x))).toNat) * ((A y).toNat * (B (ad s (ng y))).toNat) = (A x).toNat * (A y).toNat * ((B (ad s (ng x))).toNat * (B (ad s (ng y))).toNat) := fun s => Nat.mul_mul_mul_comm _ _ _ _
    rw [sm_congr (fun s _ => e2 s), sm_mul]
    congr 1
    unfold corK
    rw [← sm_shift G (fun s => (B (ad s (ng x))).toNat * (B (ad s (ng y))).toNat) x]
    refine sm_congr (fun z hz => ?_)
    show (B (ad (ad z x) (ng x))).toNat * (B (ad (ad z x) (ng y))).toNat = _
    rw [ab_back G x hz, G.assoc]
  have mid2 : sm (fun i => cor N ad ng A (fun z => A (ng z)) i * cor N ad ng B (fun z => B (ng z)) i) N = sm (fun x => sm (fun y => (A x).toNat * (A y).toNat * corK N ad B (ad x (ng y))) N) N := by
    have e1 : ∀ i, i < N → cor N ad ng A (fun z => A (ng z)) i * cor N ad ng B (fun z => B (ng z)) i = sm (fun x => (A x).toNat * (A (ad x (ng i))).toNat * corK N ad B i) N := fun i _ => by
      rw [cor_diff G B i]
      unfold cor
      rw [sm_mulr]
      refine sm_congr (fun x hx => ?_)
      show (A x).toNat * (A (ng (ad i (ng x)))).toNat * _ = _
      rw [diff_back G x i hx]
    rw [sm_congr e1, sm_swap]
    refine sm_congr (fun x _ => ?_)
    rw [← sm_shift G (fun i => (A x).toNat * (A (ad x (ng i))).toNat * corK N ad B i) x, ← sm_neg G]
    refine sm_congr (fun y hy => ?_)
    show (A x).toNat * (A (ad x (ng (ad (ng y) x)))).toNat * corK N ad B (ad (ng y) x) = _
    rw [G.comm (ng y) x, diff_twice G hy]
  rw [mid1, mid2]
end
end Go.Proofs.YtaacofbmbpkeoaaDoor
