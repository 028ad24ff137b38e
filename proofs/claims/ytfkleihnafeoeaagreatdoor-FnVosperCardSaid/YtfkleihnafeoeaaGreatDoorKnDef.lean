/- The values of chapter 9's functions, and what the laws ask of them. -/
import Derived.Test.YtfkleihnafeoeaaGreatDoorKnAx
namespace Go.Proofs.YtfkleihnafeoeaaGreatDoor
/-- Two sets that are not empty. -/
def neB (l : List Int) (a b : Int) : Bool := two l a b && (!(a == 0) && !(b == 0))
def knN (l : List Int) (a b : Nat) : Int := ((bitsN (sumN l a (stN l (sumN l a b)))).length : Int) + ((bitsN (sumN l b (stN l (sumN l a b)))).length : Int) - ((bitsN (stN l (sumN l a b))).length : Int)
def knE (l : List Int) (a b : Int) : Int := if neB l a b = true then knN l a.toNat b.toNat else -1
def tgtB (l : List Int) (a b : Int) : Bool := neB l a b && (((bitsN (sumN l a.toNat b.toNat)).length : Int) == knN l a.toNat b.toNat)
/-- The least divisor of P that is at least 2, looked for downwards; P itself at first. -/
def ldS (P : Nat) : Nat → Nat
  | 0 => P
  | i + 1 => if P % (P - i) = 0 then P - i else ldS P i
def ldN (P : Nat) : Nat := ldS P (P - 1)
def cauE (l : List Int) (a b : Int) : Int := if neB l a b = true then min ((ldN (prodI l).toNat : Nat) : Int) (((bitsN a.toNat).length : Int) + ((bitsN b.toNat).length : Int) - 1) else -1
/-- Whether x has the order of the group. -/
def fullO (l : List Int) (x : Nat) : Bool := (List.range (prodI l).toNat).all fun i => i == 0 || !(mulN l (x : Int) (i : Int) == 0)
def choB (l : List Int) (a b : Int) : Bool := two l a b && (!(a == 0) && (b.toNat.testBit 0 && (bitsN b.toNat).all fun x => x == 0 || fullO l x))
def dfcE (l : List Int) (a b : Int) : Int := if neB l a b = true then ((bitsN (sumN l a.toNat b.toNat)).length : Int) - ((bitsN a.toNat).length : Int) - ((bitsN b.toNat).length : Int) + 1 else -100
def kpH (l : List Int) (a b : Int) : Int := if neB l a b = true then ((stN l (sumN l a.toNat b.toNat) : Nat) : Int) else 0
def kpA (l : List Int) (a b : Int) : Int := if neB l a b = true then ((sumN l a.toNat (stN l (sumN l a.toNat b.toNat)) : Nat) : Int) else 0
def kpB (l : List Int) (a b : Int) : Int := if neB l a b = true then ((sumN l b.toNat (stN l (sumN l a.toNat b.toNat)) : Nat) : Int) else 0
theorem neB_yes {l : List Int} {a b : Int} (h : neB l a b = true) : grpB l = true ∧ ∃ m n : Nat, a = (m : Int) ∧ b = (n : Int) ∧ m ≠ 0 ∧ n ≠ 0 ∧ m < 2 ^ (prodI l).toNat ∧ n < 2 ^ (prodI l).toNat := by
  unfold neB two at h
  simp only [Bool.and_eq_true, Bool.not_eq_true', beq_eq_false_iff_ne, ne_eq] at h
  obtain ⟨⟨h1, h2⟩, h3, h4⟩ := h
  obtain ⟨hg, m, rfl, hm, _⟩ := isS_true h1
  obtain ⟨_, n, rfl, hn, _⟩ := isS_true h2
  exact ⟨hg, m, n, rfl, rfl, by omega, by omega, hm, hn⟩
/-- A filled set is at least as large as what fills it. -/
theorem fill_ge {l : List Int} (hg : grpB l = true) {a s : Nat} (ha : a < 2 ^ (prodI l).toNat) (h0 : a ≠ 0) : (bitsN (stN l s)).length ≤ (bitsN (sumN l a (stN l s))).length := by
  have hp := (ords_grp hg).prod
  have G := abel_grp hg
  obtain ⟨i, hi⟩ := bit_ex h0
  have hiN := el_of hg ha hi
  have h := isSum_N hg ha (stN_lt (l := l) s)
  rw [← cd_bits (stN_lt (l := l) s) (by omega), ← cd_bits (sumN_lt hg a _) (by omega), ← cd_shift G (fun i => (stN l s).testBit i) (nnN l i)]
  refine cd_le (fun z hz hb => ?_)
  have hiN2 : i < (prodI l).toNat := by omega
  exact (h z hz).2 ⟨i, adN l z (nnN l i), hiN2, G.lt _ _, hi, hb, by rw [G.comm]; exact ab_forth G i hz⟩
theorem knN_pos {l : List Int} {m n : Nat} (hg : grpB l = true) (hm : m < 2 ^ (prodI l).toNat) (h0 : m ≠ 0) : 0 ≤ knN l m n := by
  have := fill_ge (s := sumN l m n) hg hm h0
  unfold knN
  omega
theorem knE_nonneg {l : List Int} {a b : Int} : 0 ≤ knE l a b ↔ neB l a b = true := by
  unfold knE
  constructor
  · intro h
    cases hb : neB l a b with
    | true => rfl
    | false => rw [if_neg (by simp [hb])] at h; omega
  · intro h
    rw [if_pos h]
    obtain ⟨hg, m, n, rfl, rfl, h1, h2, h3, h4⟩ := neB_yes h
    exact knN_pos hg h3 h1
theorem ldS_div {P : Nat} (hP : 1 ≤ P) : ∀ i, i ≤ P - 1 → ldS P i ∣ P ∧ 1 ≤ ldS P i ∧ ldS P i ≤ P ∧ (∀ k, k ∣ P → P - i < k → ldS P i ≤ k) ∧ (2 ≤ P → 2 ≤ ldS P i)
  | 0, _ => ⟨Nat.dvd_refl _, hP, Nat.le_refl _, fun k _ hk => by show P ≤ k; omega, fun h => h⟩
  | i + 1, hi => by
    obtain ⟨h1, h2, h3, h4, h5⟩ := ldS_div hP i (by omega)
    have hlow : P - i ≤ ldS P i := by
      clear h4 h5
      cases i with
      | zero => show P - 0 ≤ P; omega
      | succ j =>
        show P - (j + 1) ≤ if P % (P - j) = 0 then P - j else ldS P j
        clear h1 h2 h3
        have key : ∀ q, q ≤ P → P - q ≤ ldS P q := fun q => by
          induction q with
          | zero => intro _; show P - 0 ≤ P; omega
          | succ q ih =>
            intro hq
            show P - (q + 1) ≤ if P % (P - q) = 0 then P - q else ldS P q
            have := ih (by omega)
            split <;> omega
        exact key (j + 1) (by omega)
    show (if P % (P - i) = 0 then P - i else ldS P i) ∣ P ∧ 1 ≤ (if P % (P - i) = 0 then P - i else ldS P i) ∧ (if P % (P - i) = 0 then P - i else ldS P i) ≤ P ∧ (∀ k, k ∣ P → P - (i + 1) < k → (if P % (P - i) = 0 then P - i else ldS P i) ≤ k) ∧ (2 ≤ P → 2 ≤ if P % (P - i) = 0 then P - i else ldS P i)
    by_cases g : P % (P - i) = 0
    · rw [if_pos g]
      exact ⟨Nat.dvd_of_mod_eq_zero g, by omega, by omega, fun k _ hk => by omega, fun _ => by omega⟩
    · rw [if_neg g]
      refine ⟨h1, h2, h3, fun k hk hlt => ?_, h5⟩
      by_cases e : k = P - i
      · subst e
        exact absurd (Nat.mod_eq_zero_of_dvd hk) g
      · exact h4 k hk (by omega)
theorem ldN_least {P : Nat} (hP : 1 ≤ P) : ∀ k, k ∣ P → 2 ≤ k → ldN P ≤ k := fun k hk h2 => (ldS_div hP (P - 1) (Nat.le_refl _)).2.2.2.1 k hk (by omega)
/-- The bound of Cauchy holds. -/
theorem cau_ok {l : List Int} {a b : Int} (h : 0 ≤ cauE l a b) : neB l a b = true ∧ cauE l a b ≤ ((bitsN (sumN l a.toNat b.toNat)).length : Int) := by
  cases hb : neB l a b with
  | false => unfold cauE at h; rw [hb, if_neg (by simp)] at h; omega
  | true =>
    refine ⟨rfl, ?_⟩
    obtain ⟨hg, m, n, rfl, rfl, h1, h2, h3, h4⟩ := neB_yes hb
    have hp := (ords_grp hg).prod
    unfold cauE
    rw [if_pos hb]
    simp only [Int.toNat_natCast]
    rcases cau_num hg h3 h4 h1 h2 (ldN_least (P := (prodI l).toNat) (by omega)) with g | g <;> omega
theorem mul_all {l : List Int} (h : Ords l) (x : Int) : mulN l x ((prodI l).toNat : Int) = 0 := (mulN_eq_zero h x _).2 (fun j hj => by
  have p1 := h.prod
  unfold mulF
  rw [show (((prodI l).toNat : Nat) : Int) = prodI l by omega]
  obtain ⟨S, hS⟩ := PK_dvd (l := l) (j + 1) l.length (by omega) (Nat.le_refl _)
  rw [← PK_full, hS, PK_succ l j hj]
  rw [show dig l x j * (_root_.Go.Proofs.YtfkleihnafeoeaaGreatDoor.PK l j * l.getD j 0 * S) = l.getD j 0 * (dig l x j * _root_.Go.Proofs.YtfkleihnafeoeaaGreatDoor.PK l j * S) by
    rw [Int.mul_comm (_root_.Go.Proofs.YtfkleihnafeoeaaGreatDoor.PK l j), Int.mul_assoc, ← Int.mul_assoc, Int.mul_comm (dig l x j), Int.mul_assoc, ← Int.mul_assoc (dig l x j)]]
  exact Int.mul_emod_right _ _)
theorem fullO_ord {l : List Int} (hg : grpB l = true) {x : Nat} : fullO l x = true ↔ IsOrd l (x : Int) (prodI l).toNat := by
  have ho := ords_grp hg
  have hp := ho.prod
  unfold fullO
  rw [List.all_eq_true]
  constructor
  · intro h
    refine ⟨by omega, by omega, mul_all ho _, fun i h1 h2 e => ?_⟩
    have := h i (List.mem_range.2 h2)
    rw [e] at this
    simp at this
    omega
  · intro h i hi
    have hi := List.mem_range.1 hi
    by_cases h0 : i = 0
    · simp [h0]
    · have := h.2.2.2 i (by omega) hi
      simp [this]
theorem fullO_one {l : List Int} (hg : grpB l = true) {x m : Nat} (h : IsOrd l (x : Int) m) : fullO l x = ((m : Int) == prodI l) := by
  have hp := (ords_grp hg).prod
  apply Bool.eq_iff_iff.2
  rw [fullO_ord hg, beq_iff_eq]
  constructor
  · intro g
    have h1 : ¬ m < (prodI l).toNat := fun hl => g.2.2.2 m h.1 hl h.2.2.1
    have h2 : ¬ (prodI l).toNat < m := fun hl => h.2.2.2 _ g.1 hl g.2.2.1
    omega
  · intro e
    have e2 : m = (prodI l).toNat := by omega
    rw [← e2]
    exact h
/-- The bound of Chowla holds. -/
theorem cho_ok {l : List Int} {a b : Int} (h : choB l a b = true) : two l a b = true ∧ (prodI l ≤ ((bitsN (sumN l a.toNat b.toNat)).length : Int) ∨ ((bitsN a.toNat).length : Int) + ((bitsN b.toNat).length : Int) - 1 ≤ ((bitsN (sumN l a.toNat b.toNat)).length : Int)) := by
  unfold choB at h
  simp only [Bool.and_eq_true, Bool.not_eq_true', beq_eq_false_iff_ne, ne_eq, List.all_eq_true] at h
  obtain ⟨h2, ha0, hb0, hall⟩ := h
  refine ⟨h2, ?_⟩
  have h3 := h2
  unfold two at h3
  rw [Bool.and_eq_true] at h3
  obtain ⟨hg, m, rfl, hm, _⟩ := isS_true h3.1
  obtain ⟨_, n, rfl, hn, hn24⟩ := isS_true h3.2
  simp only [Int.toNat_natCast] at hb0 hall ⊢
  have hp := (ords_grp hg).prod
  have key := cho_num hg hm hn (by omega) hb0 (fun x hx h0 => by
    have := hall x ((mem_bits hn24 x).2 hx)
    rw [Bool.or_eq_true, beq_iff_eq] at this
    exact (fullO_ord hg).1 (this.resolve_left h0))
  rcases key with g | g
  · left; omega
  · right; omega
end Go.Proofs.YtfkleihnafeoeaaGreatDoor
