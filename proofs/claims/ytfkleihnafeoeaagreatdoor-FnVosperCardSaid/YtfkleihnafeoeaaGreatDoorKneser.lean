/- Kneser's theorem in a finite commutative group whose elements are the numbers below N: sets are Boolean functions, sizes are sums. Plain mathematics. -/
import Derived.Test.YtfkleihnafeoeaaGreatDoorSetMath
namespace Go.Proofs.YtfkleihnafeoeaaGreatDoor
structure Abel (N : Nat) (ad : Nat → Nat → Nat) (ng : Nat → Nat) : Prop where
  pos : 0 < N
  lt : ∀ x y, ad x y < N
  nlt : ∀ x, ng x < N
  comm : ∀ x y, ad x y = ad y x
  assoc : ∀ x y z, ad (ad x y) z = ad x (ad y z)
  zero : ∀ x, x < N → ad x 0 = x
  neg : ∀ x, ad x (ng x) = 0
/-- The sum of the first k values. -/
def sm (f : Nat → Nat) : Nat → Nat
  | 0 => 0
  | k + 1 => sm f k + f k
theorem sm_congr {f g : Nat → Nat} : ∀ {n : Nat}, (∀ i, i < n → f i = g i) → sm f n = sm g n
  | 0, _ => rfl
  | n + 1, h => by
    simp only [sm]
    rw [sm_congr (fun i hi => h i (by omega)), h n (by omega)]
theorem sm_le {f g : Nat → Nat} : ∀ {n : Nat}, (∀ i, i < n → f i ≤ g i) → sm f n ≤ sm g n
  | 0, _ => Nat.le_refl _
  | n + 1, h => by
    have h1 := sm_le (n := n) (fun i hi => h i (by omega))
    have h2 := h n (by omega)
    simp only [sm]
    omega
theorem sm_add (f g : Nat → Nat) : ∀ n, sm (fun i => f i + g i) n = sm f n + sm g n
  | 0 => rfl
  | n + 1 => by
    simp only [sm]
    rw [sm_add f g n]
    omega
theorem sm_zero : ∀ n, sm (fun _ => 0) n = 0
  | 0 => rfl
  | n + 1 => by
    simp only [sm]
    rw [sm_zero n]
theorem sm_mul (c : Nat) (f : Nat → Nat) : ∀ n, sm (fun i => c * f i) n = c * sm f n
  | 0 => by simp [sm]
  | n + 1 => by
    simp only [sm]
    rw [sm_mul c f n, Nat.mul_add]
theorem sm_one (v : Nat) (f : Nat → Nat) : ∀ n, sm (fun s => if v = s then f s else 0) n = if v < n then f v else 0
  | 0 => by simp [sm]
  | n + 1 => by
    simp only [sm]
    rw [sm_one v f n]
    by_cases h : v = n
    · subst h; simp
    · by_cases h2 : v < n
      · have : v < n + 1 := by omega
        simp [h, h2, this]
      · have : ¬ v < n + 1 := by omega
        simp [h, h2, this]
theorem sm_swap (f : Nat → Nat → Nat) (n : Nat) : ∀ m, sm (fun i => sm (f i) n) m = sm (fun j => sm (fun i => f i j) m) n
  | 0 => by
    simp only [sm]
    rw [sm_zero]
  | m + 1 => by
    simp only [sm]
    rw [sm_swap f n m, sm_add]
/-- The size of a set. -/
def cd (N : Nat) (P : Nat → Bool) : Nat := sm (fun i => (P i).toNat) N
theorem cd_congr {N : Nat} {P Q : Nat → Bool} (h : ∀ i, i < N → P i = Q i) : cd N P = cd N Q := sm_congr (fun i hi => by rw [h i hi])
theorem cd_le {N : Nat} {P Q : Nat → Bool} (h : ∀ i, i < N → P i = true → Q i = true) : cd N P ≤ cd N Q := sm_le (fun i hi => by
  cases hp : P i with
  | false => simp
  | true => rw [h i hi hp]; exact Nat.le_refl _)
theorem cd_or (N : Nat) (P Q : Nat → Bool) : cd N (fun i => P i || Q i) + cd N (fun i => P i && Q i) = cd N P + cd N Q := by
  unfold cd
  rw [← sm_add, ← sm_add]
  exact sm_congr (fun i _ => by dsimp only; cases P i <;> cases Q i <;> rfl)
theorem cd_split (N : Nat) (P Q : Nat → Bool) : cd N (fun i => P i && Q i) + cd N (fun i => P i && !Q i) = cd N P := by
  unfold cd
  rw [← sm_add]
  exact sm_congr (fun i _ => by dsimp only; cases P i <;> cases Q i <;> rfl)
theorem sm_same {f g : Nat → Nat} : ∀ {n : Nat}, (∀ i, i < n → f i ≤ g i) → sm g n ≤ sm f n → ∀ i, i < n → f i = g i
  | 0, _, _, i, hi => absurd hi (by omega)
  | n + 1, h, hs, i, hi => by
    have h1 := sm_le (n := n) (fun i hi => h i (by omega))
    have h2 := h n (by omega)
    simp only [sm] at hs
    by_cases e : i = n
    · subst e; omega
    · exact sm_same (n := n) (fun i hi => h i (by omega)) (by omega) i (by omega)
/-- A part that is as large is the whole. -/
theorem cd_same {N : Nat} {P Q : Nat → Bool} (h : ∀ i, i < N → P i = true → Q i = true) (hs : cd N Q ≤ cd N P) : ∀ i, i < N → P i = Q i := fun i hi => by
  have h1 := sm_same (f := fun i => (P i).toNat) (g := fun i => (Q i).toNat) (fun i hi => by
    show (P i).toNat ≤ (Q i).toNat
    cases hp : P i with
    | false => simp
    | true => rw [h i hi hp]; exact Nat.le_refl _) hs i hi
  have h2 : (P i).toNat = (Q i).toNat := h1
  cases hp : P i <;> cases hq : Q i <;> simp_all
theorem cd_pos {N : Nat} {P : Nat → Bool} {i : Nat} (hi : i < N) (h : P i = true) : 0 < cd N P := by
  rcases Nat.eq_zero_or_pos (cd N P) with h0 | h0
  · have := cd_same (P := fun _ => false) (Q := P) (fun _ _ h => by cases h) (by rw [h0]; exact Nat.zero_le _) i hi
    rw [h] at this
    cases this
  · exact h0
theorem cd_ex {N : Nat} {P : Nat → Bool} (h : 0 < cd N P) : ∃ i, i < N ∧ P i = true := by
  apply Classical.byContradiction
  intro hn
  have e : cd N P = cd N (fun _ => false) := cd_congr (fun i hi => by
    cases hp : P i with
    | false => rfl
    | true => exact absurd ⟨i, hi, hp⟩ hn)
  have : cd N (fun _ => false) = 0 := sm_zero N
  omega
section
variable {N : Nat} {ad : Nat → Nat → Nat} {ng : Nat → Nat} (G : Abel N ad ng)
include G
theorem ab_back {x : Nat} (y : Nat) (hx : x < N) : ad (ad x y) (ng y) = x := by rw [G.assoc, G.neg, G.zero x hx]
theorem ab_forth {x : Nat} (y : Nat) (hx : x < N) : ad (ad x (ng y)) y = x := by rw [G.assoc, G.comm (ng y) y, G.neg, G.zero x hx]
theorem ab_move {x y t : Nat} (hx : x < N) (hy : y < N) : ad x t = y ↔ ad y (ng t) = x := by
  constructor
  · rintro rfl; exact ab_back G t hx
  · rintro rfl; exact ab_forth G t hy
/-- A shift keeps sizes. -/
theorem cd_shift (Q : Nat → Bool) (t : Nat) : cd N (fun z => Q (ad z t)) = cd N Q := by
  unfold cd
  have e1 : sm (fun z => (Q (ad z t)).toNat) N = sm (fun z => sm (fun y => if ad z t = y then (Q y).toNat else 0) N) N := sm_congr (fun z _ => by
    rw [sm_one, if_pos (G.lt z t)])
  rw [e1, sm_swap]
  refine sm_congr (fun y hy => ?_)
  have e2 : sm (fun z => if ad z t = y then (Q y).toNat else 0) N = sm (fun z => if ad y (ng t) = z then (fun _ => (Q y).toNat) z else 0) N := sm_congr (fun z hz => by
    by_cases h : ad z t = y
    · rw [if_pos h, if_pos ((ab_move G hz hy).1 h)]
    · rw [if_neg h, if_neg (fun h2 => h ((ab_move G hz hy).2 h2))])
  rw [e2, sm_one, if_pos (G.lt _ _)]
end
theorem mul_bound {h0 p q x : Nat} (h1 : 1 ≤ h0) (hp : h0 ≤ p) (hq : h0 ≤ q) (h : p * q ≤ h0 * x) : p + q ≤ x + h0 := by
  obtain ⟨a, rfl⟩ : ∃ a, p = h0 + a := ⟨p - h0, by omega⟩
  obtain ⟨b, rfl⟩ : ∃ b, q = h0 + b := ⟨q - h0, by omega⟩
  have e : h0 * (h0 + a + b) ≤ h0 * x := by
    refine Nat.le_trans ?_ h
    rw [Nat.add_mul, Nat.mul_add, Nat.mul_add h0, Nat.mul_add h0, Nat.mul_add a, Nat.mul_comm a h0]
    omega
  have := Nat.le_of_mul_le_mul_left e (by omega)
  omega
/-- Whether a shift keeps a set. -/
def stb (N : Nat) (ad : Nat → Nat → Nat) (C : Nat → Bool) (x : Nat) : Bool := (List.range N).all fun z => C (ad z x) == C z
theorem stb_iff {N : Nat} {ad : Nat → Nat → Nat} {C : Nat → Bool} {x : Nat} : stb N ad C x = true ↔ ∀ z, z < N → C (ad z x) = C z := by
  unfold stb
  rw [List.all_eq_true]
  constructor
  · intro h z hz
    have := h z (List.mem_range.2 hz)
    simpa using this
  · intro h z hz
    have := h z (List.mem_range.1 hz)
    simpa using this
section
variable {N : Nat} {ad : Nat → Nat → Nat} {ng : Nat → Nat} (G : Abel N ad ng)
include G
theorem stb_zero (C : Nat → Bool) : stb N ad C 0 = true := stb_iff.2 (fun z hz => by rw [G.zero z hz])
theorem stb_add {C : Nat → Bool} {x y : Nat} (hx : stb N ad C x = true) (hy : stb N ad C y = true) : stb N ad C (ad x y) = true := stb_iff.2 (fun z hz => by
  rw [← G.assoc, stb_iff.1 hy _ (G.lt z x), stb_iff.1 hx z hz])
theorem stb_neg {C : Nat → Bool} {x : Nat} (hx : stb N ad C x = true) : stb N ad C (ng x) = true := stb_iff.2 (fun z hz => by
  have := stb_iff.1 hx (ad z (ng x)) (G.lt _ _)
  rw [ab_forth G x hz] at this
  exact this.symm)
theorem stb_of {C D : Nat → Bool} (h : ∀ z, z < N → C z = D z) (x : Nat) : stb N ad C x = stb N ad D x := by
  apply Bool.eq_iff_iff.2
  rw [stb_iff, stb_iff]
  constructor
  · intro g z hz; rw [← h _ (G.lt z x), ← h z hz]; exact g z hz
  · intro g z hz; rw [h _ (G.lt z x), h z hz]; exact g z hz
/-- The pairs of P and Q whose sum with d is in D: at most |H0| of them have one sum. -/
theorem pair_count {C1 C2 D P Q : Nat → Bool} (d : Nat) (hP : ∀ h, h < N → P h = true → stb N ad C2 h = true) (hQ : ∀ k, k < N → Q k = true → stb N ad C1 k = true)
    (hD : ∀ h k, h < N → k < N → P h = true → Q k = true → D (ad (ad d h) k) = true) :
    cd N P * cd N Q ≤ cd N (fun x => stb N ad C1 x && stb N ad C2 x) * cd N D := by
  -- the number of pairs with the sum z
  have key : ∀ z, z < N → sm (fun h => (P h && Q (ad z (ng (ad d h)))).toNat) N ≤ cd N (fun x => stb N ad C1 x && stb N ad C2 x) * (D z).toNat := by
    intro z hz
    by_cases hex : ∃ h, h < N ∧ (P h && Q (ad z (ng (ad d h)))) = true
    · obtain ⟨h0, hh0, hp0⟩ := hex
      rw [Bool.and_eq_true] at hp0
      have hDz : D z = true := by
        have := hD h0 (ad z (ng (ad d h0))) hh0 (G.lt _ _) hp0.1 hp0.2
        rw [G.comm (ad d h0) _, ab_forth G _ hz] at this
        exact this
      rw [hDz]
      simp only [Bool.toNat_true, Nat.mul_one]
      -- h goes to h - h0
      have e : sm (fun h => (P h && Q (ad z (ng (ad d h)))).toNat) N = cd N (fun h => P h && Q (ad z (ng (ad d h)))) := rfl
      rw [e, ← cd_shift G _ h0]
      refine cd_le (fun x hx hpx => ?_)
      rw [Bool.and_eq_true] at hpx
      have s2 : stb N ad C2 x = true := by
        have h1 := stb_add G (hP _ (G.lt x h0) hpx.1) (stb_neg G (hP h0 hh0 hp0.1))
        rw [ab_back G h0 hx] at h1
        exact h1
      have s1 : stb N ad C1 x = true := by
        have h1 := stb_add G (hQ _ (G.lt _ _) hp0.2) (stb_neg G (hQ _ (G.lt _ _) hpx.2))
        have e2 : ad (ad z (ng (ad d h0))) (ng (ad z (ng (ad d (ad x h0))))) = x := by
          rw [← ab_move G hx (G.lt _ _)]
          -- x + (z - (d + x + h0)) = z - (d + h0)
          have hh : ad (ad x (ad z (ng (ad d (ad x h0))))) (ad d h0) = z := by
            have e3 : ad (ad x (ad z (ng (ad d (ad x h0))))) (ad d h0) = ad (ad z (ng (ad d (ad x h0)))) (ad d (ad x h0)) := by
              rw [G.comm x, G.assoc, G.comm x (ad d h0), G.assoc d h0 x, G.comm h0 x]
            rw [e3, ab_forth G _ hz]
          exact ((ab_move G (G.lt _ _) hz).1 hh).symm
        rw [e2] at h1
        exact h1
      rw [s1, s2]
      rfl
    · have e : sm (fun h => (P h && Q (ad z (ng (ad d h)))).toNat) N = sm (fun _ => 0) N := sm_congr (fun h hh => by
        cases hp : (P h && Q (ad z (ng (ad d h)))) with
        | false => rfl
        | true => exact absurd ⟨h, hh, hp⟩ hex)
      rw [e, sm_zero]
      exact Nat.zero_le _
  have h1 := sm_le (n := N) key
  rw [sm_mul] at h1
  have h2 : sm (fun z => sm (fun h => (P h && Q (ad z (ng (ad d h)))).toNat) N) N = cd N P * cd N Q := by
    rw [sm_swap]
    have e : ∀ h, sm (fun z => (P h && Q (ad z (ng (ad d h)))).toNat) N = cd N Q * (P h).toNat := by
      intro h
      cases hp : P h with
      | false =>
        simp only [Bool.false_and, Bool.toNat_false, Nat.mul_zero]
        exact sm_zero N
      | true =>
        simp only [Bool.true_and, Bool.toNat_true, Nat.mul_one]
        exact cd_shift G Q (ng (ad d h))
    rw [sm_congr (fun h _ => e h), sm_mul, Nat.mul_comm]
    rfl
  rw [h2] at h1
  exact h1
/-- A set that the common stabilizer keeps is empty or as large as that. -/
theorem part_size {H P : Nat → Bool} {x : Nat} (hx : x < N) (hp : P x = true) (h : ∀ y z, y < N → z < N → P y = true → H z = true → P (ad y z) = true) : cd N H ≤ cd N P := by
  rw [← cd_shift G P x]
  exact cd_le (fun z hz hh => by rw [G.comm]; exact h x z hx hz hp hh)
/-- One half of Kneser's lemma. -/
theorem kn_half {C1 C2 : Nat → Bool} {d : Nat} (hd : d < N) (h2 : C2 d = true) (h1 : C1 d = false) :
    cd N (stb N ad C2) ≤ cd N (fun z => C2 z && !C1 z) ∨ cd N (stb N ad C1) ≤ cd N (fun z => C2 z && !C1 z) + cd N (fun x => stb N ad C1 x && stb N ad C2 x) ∨ cd N (stb N ad C2) ≤ cd N (fun z => C1 z && !C2 z) + cd N (fun x => stb N ad C1 x && stb N ad C2 x) := by
  have hd0 : ad d 0 = d := G.zero d hd
  have hH : 1 ≤ cd N (fun x => stb N ad C1 x && stb N ad C2 x) := cd_pos (i := 0) G.pos (by rw [stb_zero G, stb_zero G]; rfl)
  -- where d + h + k lies
  have in1 : ∀ h k, stb N ad C1 k = true → C1 (ad (ad d h) k) = C1 (ad d h) := fun h k hk => stb_iff.1 hk _ (G.lt _ _)
  have in2 : ∀ h k, stb N ad C2 h = true → C2 (ad (ad d h) k) = C2 (ad d k) := fun h k hh => by
    rw [G.assoc, G.comm h k, ← G.assoc]; exact stb_iff.1 hh _ (G.lt _ _)
  have cnt1 := pair_count G (C1 := C1) (C2 := C2) (D := fun z => C2 z && !C1 z) (P := fun h => stb N ad C2 h && !C1 (ad d h)) (Q := fun k => stb N ad C1 k && C2 (ad d k)) d
    (fun h _ hp => (Bool.and_eq_true_iff.1 hp).1) (fun k _ hq => (Bool.and_eq_true_iff.1 hq).1) (fun h k _ _ hp hq => by
      rw [Bool.and_eq_true] at hp hq
      show (C2 (ad (ad d h) k) && !C1 (ad (ad d h) k)) = true
      rw [in1 h k hq.1, in2 h k hp.1, hq.2, hp.2]
      rfl)
  have cnt2 := pair_count G (C1 := C1) (C2 := C2) (D := fun z => C1 z && !C2 z) (P := fun h => stb N ad C2 h && C1 (ad d h)) (Q := fun k => stb N ad C1 k && !C2 (ad d k)) d
    (fun h _ hp => (Bool.and_eq_true_iff.1 hp).1) (fun k _ hq => (Bool.and_eq_true_iff.1 hq).1) (fun h k _ _ hp hq => by
      rw [Bool.and_eq_true] at hp hq
      show (C1 (ad (ad d h) k) && !C2 (ad (ad d h) k)) = true
      rw [in1 h k hq.1, in2 h k hp.1, hp.2, hq.2]
      rfl)
  have sp := cd_split N (stb N ad C2) (fun h => C1 (ad d h))
  have sq := cd_split N (stb N ad C1) (fun k => C2 (ad d k))
  -- each of the four is empty or large
  have big1 : ∀ (E : Bool → Bool) (h : Nat), h < N → (stb N ad C2 h && E (C1 (ad d h))) = true → cd N (fun x => stb N ad C1 x && stb N ad C2 x) ≤ cd N (fun h => stb N ad C2 h && E (C1 (ad d h))) := fun E h hh hp =>
    part_size G (P := fun h => stb N ad C2 h && E (C1 (ad d h))) hh hp (fun y z _ _ hy hz => by
      have hy' : (stb N ad C2 y && E (C1 (ad d y))) = true := hy
      rw [Bool.and_eq_true] at hy' hz
      show (stb N ad C2 (ad y z) && E (C1 (ad d (ad y z)))) = true
      rw [stb_add G hy'.1 hz.2, ← G.assoc, stb_iff.1 hz.1 _ (G.lt _ _), hy'.2]
      rfl)
  have big2 : ∀ (E : Bool → Bool) (k : Nat), k < N → (stb N ad C1 k && E (C2 (ad d k))) = true → cd N (fun x => stb N ad C1 x && stb N ad C2 x) ≤ cd N (fun k => stb N ad C1 k && E (C2 (ad d k))) := fun E k hk hq =>
    part_size G (P := fun k => stb N ad C1 k && E (C2 (ad d k))) hk hq (fun y z _ _ hy hz => by
      have hy' : (stb N ad C1 y && E (C2 (ad d y))) = true := hy
      rw [Bool.and_eq_true] at hy' hz
      show (stb N ad C1 (ad y z) && E (C2 (ad d (ad y z)))) = true
      rw [stb_add G hy'.1 hz.1, ← G.assoc, stb_iff.1 hz.2 _ (G.lt _ _), hy'.2]
      rfl)
  have bq := big2 (fun b => b) 0 G.pos (by rw [stb_zero G, hd0, h2]; rfl)
  have bp' := big1 (fun b => !b) 0 G.pos (by rw [stb_zero G, hd0, h1]; rfl)
  have bp : cd N (fun h => stb N ad C2 h && C1 (ad d h)) = 0 ∨ cd N (fun x => stb N ad C1 x && stb N ad C2 x) ≤ cd N (fun h => stb N ad C2 h && C1 (ad d h)) := by
    rcases Nat.eq_zero_or_pos (cd N (fun h => stb N ad C2 h && C1 (ad d h))) with h | h
    · exact .inl h
    · obtain ⟨i, hi, hp⟩ := cd_ex h
      exact .inr (big1 (fun b => b) i hi hp)
  have bq' : cd N (fun k => stb N ad C1 k && !C2 (ad d k)) = 0 ∨ cd N (fun x => stb N ad C1 x && stb N ad C2 x) ≤ cd N (fun k => stb N ad C1 k && !C2 (ad d k)) := by
    rcases Nat.eq_zero_or_pos (cd N (fun k => stb N ad C1 k && !C2 (ad d k))) with h | h
    · exact .inl h
    · obtain ⟨i, hi, hp⟩ := cd_ex h
      exact .inr (big2 (fun b => !b) i hi hp)
  have bq2 : cd N (fun x => stb N ad C1 x && stb N ad C2 x) ≤ cd N (fun k => stb N ad C1 k && C2 (ad d k)) := bq
  have bp2 : cd N (fun x => stb N ad C1 x && stb N ad C2 x) ≤ cd N (fun h => stb N ad C2 h && !C1 (ad d h)) := bp'
  generalize cd N (fun x => stb N ad C1 x && stb N ad C2 x) = h0 at *
  generalize cd N (fun h => stb N ad C2 h && C1 (ad d h)) = p at *
  generalize cd N (fun h => stb N ad C2 h && !C1 (ad d h)) = p' at *
  generalize cd N (fun k => stb N ad C1 k && C2 (ad d k)) = q at *
  generalize cd N (fun k => stb N ad C1 k && !C2 (ad d k)) = q' at *
  generalize cd N (fun z => C2 z && !C1 z) = x at *
  generalize cd N (fun z => C1 z && !C2 z) = y at *
  have hx := mul_bound hH bp2 bq2 cnt1
  rcases bp with e | bp
  · left; omega
  · rcases bq' with e | bq'
    · right; left; omega
    · have hy := mul_bound hH bp bq' cnt2
      omega
/-- Kneser's lemma: a bound that two sets keep is kept by their union. -/
theorem kn_union {C1 C2 : Nat → Bool} {t : Nat} (h1 : t ≤ cd N C1 + cd N (stb N ad C1)) (h2 : t ≤ cd N C2 + cd N (stb N ad C2)) :
    t ≤ cd N (fun z => C1 z || C2 z) + cd N (stb N ad (fun z => C1 z || C2 z)) := by
  by_cases s1 : ∀ z, z < N → C1 z = true → C2 z = true
  · have e : ∀ z, z < N → (C1 z || C2 z) = C2 z := fun z hz => by
      cases h : C1 z with
      | false => rfl
      | true => rw [s1 z hz h]; rfl
    rw [cd_congr e, cd_congr (fun x _ => stb_of G e x)]
    exact h2
  by_cases s2 : ∀ z, z < N → C2 z = true → C1 z = true
  · have e : ∀ z, z < N → (C1 z || C2 z) = C1 z := fun z hz => by
      cases h : C2 z with
      | false => simp
      | true => rw [s2 z hz h]; rfl
    rw [cd_congr e, cd_congr (fun x _ => stb_of G e x)]
    exact h1
  have s1' : ∃ z, z < N ∧ C1 z = true ∧ C2 z = false := Classical.byContradiction (fun hn => s1 (fun z hz h => by
    cases h2 : C2 z with
    | true => rfl
    | false => exact absurd ⟨z, hz, h, h2⟩ hn))
  have s2' : ∃ z, z < N ∧ C2 z = true ∧ C1 z = false := Classical.byContradiction (fun hn => s2 (fun z hz h => by
    cases h2 : C1 z with
    | true => rfl
    | false => exact absurd ⟨z, hz, h, h2⟩ hn))
  obtain ⟨d, hd, a1, a2⟩ := s2'
  obtain ⟨d', hd', b1, b2⟩ := s1'
  have k1 := kn_half G hd a1 a2
  have k2 := kn_half G hd' b1 b2
  have ec : cd N (fun x => stb N ad C2 x && stb N ad C1 x) = cd N (fun x => stb N ad C1 x && stb N ad C2 x) := cd_congr (fun x _ => Bool.and_comm _ _)
  rw [ec] at k2
  have hs : cd N (fun x => stb N ad C1 x && stb N ad C2 x) ≤ cd N (stb N ad (fun z => C1 z || C2 z)) := cd_le (fun x _ hx => by
    rw [Bool.and_eq_true] at hx
    exact stb_iff.2 (fun z hz => by rw [stb_iff.1 hx.1 z hz, stb_iff.1 hx.2 z hz]))
  have c1 := cd_or N C1 C2
  have c2 := cd_split N C1 C2
  have c3 := cd_split N C2 C1
  have ec2 : cd N (fun z => C2 z && C1 z) = cd N (fun z => C1 z && C2 z) := cd_congr (fun x _ => Bool.and_comm _ _)
  rw [ec2] at c3
  omega
/-- For each element of B a set of sums that keeps the bound. -/
theorem kn_cover : ∀ (n : Nat) (A B : Nat → Bool) (b : Nat), cd N B ≤ n → b < N → B b = true →
    ∃ C : Nat → Bool, (∀ a, a < N → A a = true → C (ad a b) = true) ∧ (∀ z, z < N → C z = true → ∃ x y, x < N ∧ y < N ∧ A x = true ∧ B y = true ∧ ad x y = z) ∧ cd N A + cd N B ≤ cd N C + cd N (stb N ad C)
  | 0, A, B, b, hn, hb, hB => absurd (cd_pos hb hB) (by omega)
  | n + 1, A, B, b, hn, hb, hB => by
    by_cases hall : ∀ a y, a < N → y < N → A a = true → B y = true → A (ad y (ad a (ng b))) = true
    · refine ⟨fun z => A (ad z (ng b)), fun a ha h => by show A (ad (ad a b) (ng b)) = true; rw [ab_back G b ha]; exact h, fun z hz h => ⟨ad z (ng b), b, G.lt _ _, hb, h, hB, ab_forth G b hz⟩, ?_⟩
      rw [cd_shift G A (ng b)]
      have hst : cd N B ≤ cd N (stb N ad (fun z => A (ad z (ng b)))) := by
        rw [← cd_shift G B b]
        refine cd_le (fun x hx hy => ?_)
        have step : ∀ z, z < N → A z = true → A (ad z x) = true := fun z hz hz2 => by
          have := hall z (ad x b) hz (G.lt _ _) hz2 hy
          have e : ad (ad x b) (ad z (ng b)) = ad z x := by
            rw [G.comm z, ← G.assoc, ab_back G b hx, G.comm]
          rw [e] at this
          exact this
        have same := cd_same step (by rw [cd_shift G A x]; exact Nat.le_refl _)
        exact stb_iff.2 (fun z hz => by
          have h1 := same (ad z (ng b)) (G.lt _ _)
          have e : ad (ad z x) (ng b) = ad (ad z (ng b)) x := by rw [G.assoc, G.comm x, ← G.assoc]
          show A (ad (ad z x) (ng b)) = A (ad z (ng b))
          rw [e]
          exact h1.symm)
      omega
    · obtain ⟨a, y, ha, hy, hA, hBy, hno⟩ : ∃ a y, a < N ∧ y < N ∧ A a = true ∧ B y = true ∧ A (ad y (ad a (ng b))) = false := Classical.byContradiction (fun hn => hall (fun a y ha hy h1 h2 => by
        cases h : A (ad y (ad a (ng b))) with
        | true => rfl
        | false => exact absurd ⟨a, y, ha, hy, h1, h2, h⟩ hn))
      obtain ⟨e, he⟩ : ∃ e, ad a (ng b) = e := ⟨_, rfl⟩
      rw [he] at hno
      have hsum : cd N (fun z => A z || B (ad z (ng e))) + cd N (fun z => B z && A (ad z e)) = cd N A + cd N B := by
        have c1 := cd_or N A (fun z => B (ad z (ng e)))
        rw [cd_shift G B (ng e)] at c1
        have c2 : cd N (fun z => A z && B (ad z (ng e))) = cd N (fun z => B z && A (ad z e)) := by
          rw [← cd_shift G (fun z => A z && B (ad z (ng e))) e]
          exact cd_congr (fun z hz => by rw [ab_back G e hz, Bool.and_comm])
        rw [c2] at c1
        exact c1
      have hlt : cd N (fun z => B z && A (ad z e)) < cd N B := by
        have hle : cd N (fun z => B z && A (ad z e)) ≤ cd N B := cd_le (fun z _ h => (Bool.and_eq_true_iff.1 h).1)
        rcases Nat.lt_or_ge (cd N (fun z => B z && A (ad z e))) (cd N B) with h | h
        · exact h
        · have := cd_same (P := fun z => B z && A (ad z e)) (fun z _ h => (Bool.and_eq_true_iff.1 h).1) h y hy
          rw [hBy, hno] at this
          cases this
      have hb2 : (B b && A (ad b e)) = true := by
        have e2 : ad b e = a := by rw [← he, G.comm, ab_forth G b ha]
        rw [hB, e2, hA]
        rfl
      obtain ⟨C, g1, g2, g3⟩ := kn_cover n (fun z => A z || B (ad z (ng e))) (fun z => B z && A (ad z e)) b (by omega) hb hb2
      refine ⟨C, fun a ha h => g1 a ha (by rw [h]; rfl), fun z hz h => ?_, by omega⟩
      obtain ⟨x, y2, hx, hy2, hx1, hy1, e3⟩ := g2 z hz h
      rw [Bool.and_eq_true] at hy1
      rw [Bool.or_eq_true] at hx1
      rcases hx1 with hx1 | hx1
      · exact ⟨x, y2, hx, hy2, hx1, hy1.1, e3⟩
      · refine ⟨ad y2 e, ad x (ng e), G.lt _ _, G.lt _ _, hy1.2, hx1, ?_⟩
        rw [← e3, G.assoc, G.comm e, ab_forth G e hx, G.comm]
/-- All of them together. -/
theorem kn_all (A B : Nat → Bool) : ∀ k, k ≤ N → (∀ b, b < k → B b = false) ∨ ∃ C : Nat → Bool, (∀ b, b < k → B b = true → ∀ a, a < N → A a = true → C (ad a b) = true) ∧ (∀ z, z < N → C z = true → ∃ x y, x < N ∧ y < N ∧ A x = true ∧ B y = true ∧ ad x y = z) ∧ cd N A + cd N B ≤ cd N C + cd N (stb N ad C)
  | 0, _ => .inl (fun b hb => absurd hb (by omega))
  | k + 1, hk => by
    have ih := kn_all A B k (by omega)
    cases hB : B k with
    | false =>
      rcases ih with ih | ⟨C, h1, h2, h3⟩
      · exact .inl (fun b hb => by
          by_cases e : b = k
          · subst e; exact hB
          · exact ih b (by omega))
      · refine .inr ⟨C, fun b hb hbb => ?_, h2, h3⟩
        by_cases e : b = k
        · subst e; rw [hB] at hbb; cases hbb
        · exact h1 b (by omega) hbb
    | true =>
      obtain ⟨D, d1, d2, d3⟩ := kn_cover G (cd N B) A B k (Nat.le_refl _) (by omega) hB
      rcases ih with ih | ⟨C, h1, h2, h3⟩
      · refine .inr ⟨D, fun b hb hbb => ?_, d2, d3⟩
        by_cases e : b = k
        · rw [e]; exact d1
        · rw [ih b (by omega)] at hbb; cases hbb
      · refine .inr ⟨fun z => C z || D z, fun b hb hbb a ha h => ?_, fun z hz h => ?_, kn_union G h3 d3⟩
        · show (C (ad a b) || D (ad a b)) = true
          by_cases e : b = k
          · subst e; rw [d1 a ha h, Bool.or_true]
          · rw [h1 b (by omega) hbb a ha h, Bool.true_or]
        · rw [Bool.or_eq_true] at h
          rcases h with h | h
          · exact h2 z hz h
          · exact d2 z hz h
/-- Kneser's theorem, first form. -/
theorem kn_first {A B S : Nat → Bool} (hS : ∀ z, z < N → (S z = true ↔ ∃ x y, x < N ∧ y < N ∧ A x = true ∧ B y = true ∧ ad x y = z)) {b : Nat} (hb : b < N) (hB : B b = true) :
    cd N A + cd N B ≤ cd N S + cd N (stb N ad S) := by
  rcases kn_all G A B N (Nat.le_refl _) with h | ⟨C, h1, h2, h3⟩
  · rw [h b hb] at hB; cases hB
  · have e : ∀ z, z < N → C z = S z := fun z hz => by
      apply Bool.eq_iff_iff.2
      rw [hS z hz]
      constructor
      · exact h2 z hz
      · rintro ⟨x, y, hx, hy, hA, hB, rfl⟩
        exact h1 y hy hB x hx hA
    rw [← cd_congr e, ← cd_congr (fun x _ => stb_of G e x)]
    exact h3
/-- Kneser's theorem: A and B filled by the stabilizer of their sum. -/
theorem kneser {A B S FA FB : Nat → Bool} (hS : ∀ z, z < N → (S z = true ↔ ∃ x y, x < N ∧ y < N ∧ A x = true ∧ B y = true ∧ ad x y = z))
    (hFA : ∀ z, z < N → (FA z = true ↔ ∃ x y, x < N ∧ y < N ∧ A x = true ∧ stb N ad S y = true ∧ ad x y = z))
    (hFB : ∀ z, z < N → (FB z = true ↔ ∃ x y, x < N ∧ y < N ∧ B x = true ∧ stb N ad S y = true ∧ ad x y = z)) {b : Nat} (hb : b < N) (hB : B b = true) :
    cd N FA + cd N FB ≤ cd N S + cd N (stb N ad S) := by
  have hFb : FB b = true := (hFB b hb).2 ⟨b, 0, hb, G.pos, hB, stb_zero G S, G.zero b hb⟩
  refine kn_first G (A := FA) (B := FB) (S := S) (fun z hz => ?_) hb hFb
  rw [hS z hz]
  constructor
  · rintro ⟨x, y, hx, hy, hA, hB, e⟩
    exact ⟨x, y, hx, hy, (hFA x hx).2 ⟨x, 0, hx, G.pos, hA, stb_zero G S, G.zero x hx⟩, (hFB y hy).2 ⟨y, 0, hy, G.pos, hB, stb_zero G S, G.zero y hy⟩, e⟩
  · rintro ⟨x, y, hx, hy, hA, hB, e⟩
    obtain ⟨x1, u, hx1, hu, hA1, su, rfl⟩ := (hFA x hx).1 hA
    obtain ⟨y1, v, hy1, hv, hB1, sv, rfl⟩ := (hFB y hy).1 hB
    -- x1 + y1 is a sum, and z is it, shifted
    have h1 : S (ad x1 y1) = true := (hS _ (G.lt _ _)).2 ⟨x1, y1, hx1, hy1, hA1, hB1, rfl⟩
    have h2 := stb_iff.1 (stb_add G su sv) (ad x1 y1) (G.lt _ _)
    have e2 : ad (ad x1 y1) (ad u v) = z := by
      rw [← e, G.assoc x1 y1, ← G.assoc y1 u v, G.comm y1 u, G.assoc u y1 v, ← G.assoc x1 u]
    rw [e2, h1] at h2
    exact (hS z hz).1 h2
end
end Go.Proofs.YtfkleihnafeoeaaGreatDoor
