/- Energies as numbers: sums over tables and lists, pairs counted by their sums, chosen elements. -/
import Derived.Test.YtfkleihnafeoeaaGreatDoorSumMath
import Derived.Test.YtfkleihnafeoeaaGreatDoorLstN
namespace Go.Proofs.YtfkleihnafeoeaaGreatDoor
/-- The sum of the first k values. -/
def accN (f : Nat → Int) : Nat → Int
  | 0 => 0
  | k + 1 => accN f k + f k
theorem accN_congr {f g : Nat → Int} : ∀ {n : Nat}, (∀ i, i < n → f i = g i) → accN f n = accN g n
  | 0, _ => rfl
  | n + 1, h => by
    have h1 := accN_congr (n := n) (fun i hi => h i (by omega))
    simp only [accN]
    rw [h1, h n (by omega)]
theorem accN_add (f g : Nat → Int) : ∀ n, accN (fun i => f i + g i) n = accN f n + accN g n
  | 0 => rfl
  | n + 1 => by
    simp only [accN]
    rw [accN_add f g n]
    omega
theorem accN_zero : ∀ n, accN (fun _ => 0) n = 0
  | 0 => rfl
  | n + 1 => by
    simp only [accN]
    rw [accN_zero n]
    rfl
theorem accN_mul (c : Int) (f : Nat → Int) : ∀ n, accN (fun i => c * f i) n = c * accN f n
  | 0 => by simp [accN]
  | n + 1 => by
    simp only [accN]
    rw [accN_mul c f n, Int.mul_add]
theorem accN_bnd {f : Nat → Int} {a b : Int} : ∀ {n : Nat}, (∀ i, i < n → a ≤ f i ∧ f i ≤ b) → (n : Int) * a ≤ accN f n ∧ accN f n ≤ (n : Int) * b
  | 0, _ => by simp [accN]
  | n + 1, h => by
    have h1 := accN_bnd (n := n) (fun i hi => h i (by omega))
    have h2 := h n (by omega)
    simp only [accN]
    have e1 : ((n + 1 : Nat) : Int) * a = (n : Int) * a + a := by rw [Int.natCast_add, Int.add_mul]; simp
    have e2 : ((n + 1 : Nat) : Int) * b = (n : Int) * b + b := by rw [Int.natCast_add, Int.add_mul]; simp
    rw [e1, e2]
    omega
theorem accN_one (v : Nat) (f : Nat → Int) : ∀ n, accN (fun s => if v = s then f s else 0) n = if v < n then f v else 0
  | 0 => by simp [accN]
  | n + 1 => by
    simp only [accN]
    rw [accN_one v f n]
    by_cases h : v = n
    · subst h; simp
    · by_cases h2 : v < n
      · have : v < n + 1 := by omega
        simp [h, h2, this]
      · have : ¬ v < n + 1 := by omega
        simp [h, h2, this]
theorem accN_swap (f : Nat → Nat → Int) (n : Nat) : ∀ m, accN (fun i => accN (f i) n) m = accN (fun j => accN (fun i => f i j) m) n
  | 0 => by
    simp only [accN]
    rw [accN_zero]
  | m + 1 => by
    simp only [accN]
    rw [accN_swap f n m, accN_add]
/-- The sum of the values at the elements of a list. -/
def sumL (f : Nat → Int) : List Nat → Int
  | [] => 0
  | x :: t => f x + sumL f t
theorem sumL_app (f : Nat → Int) (M : List Nat) : ∀ L, sumL f (L ++ M) = sumL f L + sumL f M
  | [] => by simp [sumL]
  | x :: t => by
    rw [List.cons_append]
    simp only [sumL]
    rw [sumL_app f M t]
    omega
theorem sumL_congr {f g : Nat → Int} : ∀ {L : List Nat}, (∀ x ∈ L, f x = g x) → sumL f L = sumL g L
  | [], _ => rfl
  | x :: t, h => by
    simp only [sumL]
    rw [h x (by simp), sumL_congr (fun y hy => h y (by simp [hy]))]
theorem sumL_bnd {f : Nat → Int} {a b : Int} : ∀ {L : List Nat}, (∀ x ∈ L, a ≤ f x ∧ f x ≤ b) → (L.length : Int) * a ≤ sumL f L ∧ sumL f L ≤ (L.length : Int) * b
  | [], _ => by simp [sumL]
  | x :: t, h => by
    have h1 := sumL_bnd (L := t) (fun y hy => h y (by simp [hy]))
    have h2 := h x (by simp)
    simp only [sumL, List.length_cons]
    have e1 : ((t.length + 1 : Nat) : Int) * a = (t.length : Int) * a + a := by rw [Int.natCast_add, Int.add_mul]; simp
    have e2 : ((t.length + 1 : Nat) : Int) * b = (t.length : Int) * b + b := by rw [Int.natCast_add, Int.add_mul]; simp
    rw [e1, e2]
    omega
theorem sumL_accN (f : Nat → Nat → Int) (n : Nat) : ∀ L, sumL (fun x => accN (f x) n) L = accN (fun j => sumL (fun x => f x j) L) n
  | [] => by
    simp only [sumL]
    rw [accN_zero]
  | x :: t => by
    simp only [sumL]
    rw [sumL_accN f n t, accN_add]
theorem sumL_add (f g : Nat → Int) : ∀ L, sumL (fun x => f x + g x) L = sumL f L + sumL g L
  | [] => rfl
  | x :: t => by
    simp only [sumL]
    rw [sumL_add f g t]
    omega
theorem sumL_swap (f : Nat → Nat → Int) (M : List Nat) : ∀ L, sumL (fun x => sumL (f x) M) L = sumL (fun y => sumL (fun x => f x y) L) M
  | [] => by
    simp only [sumL]
    induction M with
    | nil => rfl
    | cons y t ih => simp only [sumL]; rw [← ih]; rfl
  | x :: t => by
    simp only [sumL]
    rw [sumL_swap f M t, sumL_add]
theorem accN_take (f : Nat → Int) (L : List Nat) : ∀ k, k ≤ L.length → accN (fun i => f (L.getD i 0)) k = sumL f (L.take k)
  | 0, _ => by simp [accN, sumL]
  | k + 1, h => by
    simp only [accN]
    rw [accN_take f L k (by omega), List.take_add_one, List.getElem?_eq_getElem (by omega), sumL_app]
    simp [sumL, List.getD, List.getElem?_eq_getElem (show k < L.length by omega)]
theorem accN_list (f : Nat → Int) (L : List Nat) : accN (fun i => f (L.getD i 0)) L.length = sumL f L := by
  rw [accN_take f L _ (Nat.le_refl _), List.take_length]
/-- Whether an element is one of a set, as a number. -/
def bitI (a k : Nat) : Int := if a.testBit k = true then 1 else 0
theorem bitI_bnd (a k : Nat) : 0 ≤ bitI a k ∧ bitI a k ≤ 1 := by unfold bitI; split <;> omega
theorem hit_sumL (l : List Int) (x z : Nat) : ∀ M, (hitN l M x z : Int) = sumL (fun y => if (addN l (x : Int) (y : Int)).toNat = z then 1 else 0) M
  | [] => rfl
  | y :: t => by
    have ih := hit_sumL l x z t
    simp only [sumL]
    rw [← ih]
    unfold hitN
    rw [List.countP_cons]
    by_cases h : (addN l (x : Int) (y : Int)).toNat = z
    · simp [h]; omega
    · simp [h]
theorem par_sumL (l : List Int) (M : List Nat) (z : Nat) : ∀ L, (parN l L M z : Int) = sumL (fun x => (hitN l M x z : Int)) L
  | [] => rfl
  | x :: t => by
    have ih := par_sumL l M z t
    simp only [sumL]
    rw [← ih]
    simp [parN]
theorem parN_comm (l : List Int) (L M : List Nat) (z : Nat) : parN l L M z = parN l M L z := by
  have h1 := par_sumL l M z L
  have h2 := par_sumL l L z M
  have e1 : sumL (fun x => (hitN l M x z : Int)) L = sumL (fun x => sumL (fun y => if (addN l (x : Int) (y : Int)).toNat = z then 1 else 0) M) L := sumL_congr (fun x _ => hit_sumL l x z M)
  have e2 : sumL (fun y => (hitN l L y z : Int)) M = sumL (fun y => sumL (fun x => if (addN l (x : Int) (y : Int)).toNat = z then 1 else 0) L) M := sumL_congr (fun y _ => by
    rw [hit_sumL]
    exact sumL_congr (fun x _ => by rw [addN_comm l (y : Int) (x : Int)]))
  rw [sumL_swap] at e1
  rw [e1, ← e2, ← h2] at h1
  omega
/-- A function of the sum, added up over pairs: each value counts as often as it is a sum. -/
theorem hit_sum {l : List Int} (ho : Ords l) (f : Nat → Int) (x : Nat) : ∀ M, sumL (fun y => f (addN l (x : Int) (y : Int)).toNat) M = accN (fun s => (hitN l M x s : Int) * f s) (prodI l).toNat
  | [] => by
    have : accN (fun s => (hitN l [] x s : Int) * f s) (prodI l).toNat = accN (fun _ => 0) (prodI l).toNat := accN_congr (fun i _ => by simp [hitN])
    rw [this, accN_zero]
    rfl
  | y :: t => by
    simp only [sumL]
    rw [hit_sum ho f x t]
    have hv := addN_in ho (x : Int) (y : Int)
    have hlt : (addN l (x : Int) (y : Int)).toNat < (prodI l).toNat := by omega
    have e : accN (fun s => (hitN l (y :: t) x s : Int) * f s) (prodI l).toNat = accN (fun s => (hitN l t x s : Int) * f s + (if (addN l (x : Int) (y : Int)).toNat = s then f s else 0)) (prodI l).toNat := accN_congr (fun s _ => by
      rw [hit_sumL l x s (y :: t), hit_sumL l x s t]
      simp only [sumL]
      by_cases h : (addN l (x : Int) (y : Int)).toNat = s
      · rw [if_pos h, if_pos h, Int.add_mul]; omega
      · rw [if_neg h, if_neg h]; simp)
    rw [e, accN_add, accN_one, if_pos hlt]
    omega
theorem par_sum {l : List Int} (ho : Ords l) (f : Nat → Int) (M : List Nat) : ∀ L, sumL (fun x => sumL (fun y => f (addN l (x : Int) (y : Int)).toNat) M) L = accN (fun s => (parN l L M s : Int) * f s) (prodI l).toNat
  | [] => by
    have : accN (fun s => (parN l [] M s : Int) * f s) (prodI l).toNat = accN (fun _ => 0) (prodI l).toNat := accN_congr (fun i _ => by simp [parN])
    rw [this, accN_zero]
    rfl
  | x :: t => by
    simp only [sumL]
    rw [par_sum ho f M t, hit_sum ho f x M, ← accN_add]
    exact accN_congr (fun s _ => by
      have : (parN l (x :: t) M s : Int) = (hitN l M x s : Int) + (parN l t M s : Int) := by simp [parN]
      rw [this, Int.add_mul])
/-- s is a sum of u and an element of a just where s - u is in a. -/
theorem mov_sub {l : List Int} (hg : grpB l = true) {a : Nat} (ha : a < 2 ^ (prodI l).toNat) (u : Nat) {s : Nat} (hs : (s : Int) < prodI l) : (movN l a u).testBit s = a.testBit (addN l (s : Int) (negN l (u : Int))).toNat := by
  have ho := ords_grp hg
  have h24 := grp_pow hg ha
  apply Bool.eq_iff_iff.2
  rw [movN_bit l h24]
  constructor
  · rintro ⟨y, hy, e⟩
    have hyp : (y : Int) < prodI l := grp_elt hg ha ((mem_bits h24 y).2 hy)
    have a1 := addN_in ho (y : Int) (u : Int)
    have e2 : (s : Int) = addN l (y : Int) (u : Int) := by omega
    rw [e2, add_neg_back ho (u : Int) (by omega) hyp, Int.toNat_natCast]
    exact hy
  · intro h
    have a1 := addN_in ho (s : Int) (negN l (u : Int))
    refine ⟨_, h, ?_⟩
    rw [Int.toNat_of_nonneg a1.1, addN_assoc ho, addN_comm l (negN l (u : Int)) (u : Int), addN_neg ho, addN_zero ho (by omega) hs]
    omega
theorem par_bits {l : List Int} (hg : grpB l = true) {a : Nat} (ha : a < 2 ^ (prodI l).toNat) (L : List Nat) {s : Nat} (hs : (s : Int) < prodI l) : (parN l L (bitsN a) s : Int) = sumL (fun z => bitI a (addN l (s : Int) (negN l (z : Int))).toNat) L := by
  rw [par_sumL]
  refine sumL_congr (fun u _ => ?_)
  rw [hit_iff hg ha, mov_sub hg ha u hs]
  unfold bitI
  split <;> rfl
/-- The quadruples of one set, counted one by one. -/
def quaN (l : List Int) (a : Nat) : Int := sumL (fun x => sumL (fun y => sumL (fun z => bitI a (addN l (addN l (x : Int) (y : Int)) (negN l (z : Int))).toNat) (bitsN a)) (bitsN a)) (bitsN a)
/-- The squares of the counts. -/
def sqN (l : List Int) (a b : Nat) : Int := accN (fun s => (parN l (bitsN a) (bitsN b) s : Int) * (parN l (bitsN a) (bitsN b) s : Int)) (prodI l).toNat
theorem qua_sq {l : List Int} (hg : grpB l = true) {a : Nat} (ha : a < 2 ^ (prodI l).toNat) : quaN l a = sqN l a a := by
  have ho := ords_grp hg
  unfold sqN
  rw [← par_sum ho (fun s => (parN l (bitsN a) (bitsN a) s : Int)) (bitsN a) (bitsN a)]
  unfold quaN
  refine sumL_congr (fun x _ => sumL_congr (fun y _ => ?_))
  have h1 := addN_in ho (x : Int) (y : Int)
  rw [par_bits hg ha _ (by omega), Int.toNat_of_nonneg h1.1]
theorem qua_up (l : List Int) (a : Nat) : quaN l a ≤ ((bitsN a).length : Int) * (((bitsN a).length : Int) * ((bitsN a).length : Int)) := by
  have h1 : ∀ x y : Nat, sumL (fun z => bitI a (addN l (addN l (x : Int) (y : Int)) (negN l (z : Int))).toNat) (bitsN a) ≤ ((bitsN a).length : Int) := fun x y => by
    have := (sumL_bnd (L := bitsN a) (a := 0) (b := 1) (fun z _ => bitI_bnd a (addN l (addN l (x : Int) (y : Int)) (negN l (z : Int))).toNat)).2
    omega
  have h0 : ∀ x y : Nat, 0 ≤ sumL (fun z => bitI a (addN l (addN l (x : Int) (y : Int)) (negN l (z : Int))).toNat) (bitsN a) := fun x y => by
    have := (sumL_bnd (L := bitsN a) (a := 0) (b := 1) (fun z _ => bitI_bnd a (addN l (addN l (x : Int) (y : Int)) (negN l (z : Int))).toNat)).1
    omega
  have h2 : ∀ x : Nat, 0 ≤ sumL (fun y => sumL (fun z => bitI a (addN l (addN l (x : Int) (y : Int)) (negN l (z : Int))).toNat) (bitsN a)) (bitsN a) ∧ sumL (fun y => sumL (fun z => bitI a (addN l (addN l (x : Int) (y : Int)) (negN l (z : Int))).toNat) (bitsN a)) (bitsN a) ≤ ((bitsN a).length : Int) * ((bitsN a).length : Int) := fun x => by
    have := sumL_bnd (L := bitsN a) (a := 0) (b := ((bitsN a).length : Int)) (fun y _ => ⟨h0 x y, h1 x y⟩)
    omega
  exact (sumL_bnd (L := bitsN a) (a := 0) (fun x _ => h2 x)).2
theorem sumL_mem {f : Nat → Int} (h0 : ∀ x, 0 ≤ f x) : ∀ {L : List Nat} {x : Nat}, x ∈ L → f x ≤ sumL f L
  | y :: t, x, h => by
    simp only [sumL]
    have hs : 0 ≤ sumL f t := by
      clear h
      induction t with
      | nil => simp [sumL]
      | cons z u ih => simp only [sumL]; have := h0 z; omega
    rcases List.mem_cons.1 h with rfl | h
    · omega
    · have := sumL_mem h0 h
      have := h0 y
      omega
theorem qua_lo {l : List Int} (hg : grpB l = true) {a : Nat} (ha : a < 2 ^ (prodI l).toNat) : ((bitsN a).length : Int) * ((bitsN a).length : Int) ≤ quaN l a := by
  have ho := ords_grp hg
  have h24 := grp_pow hg ha
  have h1 : ∀ x ∈ bitsN a, ∀ y ∈ bitsN a, 1 ≤ sumL (fun z => bitI a (addN l (addN l (x : Int) (y : Int)) (negN l (z : Int))).toNat) (bitsN a) := fun x hx y hy => by
    have h := sumL_mem (f := fun z => bitI a (addN l (addN l (x : Int) (y : Int)) (negN l (z : Int))).toNat) (fun z => (bitI_bnd a _).1) hy
    have e : bitI a (addN l (addN l (x : Int) (y : Int)) (negN l (y : Int))).toNat = 1 := by
      rw [add_neg_back ho (y : Int) (by omega) (grp_elt hg ha hx), Int.toNat_natCast]
      unfold bitI
      rw [if_pos ((mem_bits h24 x).1 hx)]
    simp only [e] at h
    exact h
  have hb : ∀ x y : Nat, sumL (fun z => bitI a (addN l (addN l (x : Int) (y : Int)) (negN l (z : Int))).toNat) (bitsN a) ≤ ((bitsN a).length : Int) := fun x y => by
    have := (sumL_bnd (L := bitsN a) (a := 0) (b := 1) (fun z _ => bitI_bnd a (addN l (addN l (x : Int) (y : Int)) (negN l (z : Int))).toNat)).2
    omega
  have h2 : ∀ x ∈ bitsN a, ((bitsN a).length : Int) ≤ sumL (fun y => sumL (fun z => bitI a (addN l (addN l (x : Int) (y : Int)) (negN l (z : Int))).toNat) (bitsN a)) (bitsN a) ∧ sumL (fun y => sumL (fun z => bitI a (addN l (addN l (x : Int) (y : Int)) (negN l (z : Int))).toNat) (bitsN a)) (bitsN a) ≤ ((bitsN a).length : Int) * ((bitsN a).length : Int) := fun x hx => by
    have := sumL_bnd (L := bitsN a) (a := 1) (b := ((bitsN a).length : Int)) (fun y hy => ⟨h1 x hx y hy, hb x y⟩)
    omega
  exact (sumL_bnd (L := bitsN a) (fun x hx => h2 x hx)).1
/-- The numbers below k that are chosen, as a set. -/
def selK (P : Nat → Bool) (k : Nat) : Nat := orF (fun x : Nat => (x : Int)) ((List.range k).filter P)
theorem selK_zero (P : Nat → Bool) : selK P 0 = 0 := rfl
theorem selK_yes {P : Nat → Bool} {k : Nat} (h : P k = true) : selK P (k + 1) = selK P k ||| 2 ^ k := by
  unfold selK
  rw [List.range_succ, List.filter_append]
  simp only [List.filter_cons, List.filter_nil, h, if_true]
  rw [orF_snoc, Int.toNat_natCast]
theorem selK_no {P : Nat → Bool} {k : Nat} (h : P k = false) : selK P (k + 1) = selK P k := by
  unfold selK
  rw [List.range_succ, List.filter_append]
  simp [h]
theorem selK_bit (P : Nat → Bool) (k x : Nat) : (selK P k).testBit x = true ↔ x < k ∧ P x = true := by
  unfold selK
  rw [orF_bit]
  constructor
  · rintro ⟨y, hy, e⟩
    rw [List.mem_filter, List.mem_range] at hy
    rw [Int.toNat_natCast] at e
    subst e
    exact hy
  · intro h
    exact ⟨x, by rw [List.mem_filter, List.mem_range]; exact h, Int.toNat_natCast x⟩
theorem selK_lt (P : Nat → Bool) (k : Nat) : selK P k < 2 ^ k :=
  orF_lt _ _ _ (fun x hx => by rw [List.mem_filter, List.mem_range] at hx; rw [Int.toNat_natCast]; exact hx.1)
theorem selK_lt24 (P : Nat → Bool) {k : Nat} (hk : k ≤ 24) : selK P k < 2 ^ 24 := Nat.lt_of_lt_of_le (selK_lt P k) (Nat.pow_le_pow_right (by decide) hk)
theorem tabE_two {l : List Int} {a b : Int} (h : two l a b = true) : tabE l a b = tabN l a.toNat b.toNat := by unfold tabE; rw [if_pos h]
theorem tabE_no {l : List Int} {a b : Int} (h : two l a b = false) : tabE l a b = [] := by unfold tabE; rw [if_neg (by simp [h])]
theorem tabN_len (l : List Int) (a b : Nat) : (tabN l a b).length = (prodI l).toNat := by unfold tabN; rw [tabF_len]
theorem tabN_at (l : List Int) (a b : Nat) {k : Nat} (h : k < (prodI l).toNat) : (tabN l a b).getD k 0 = (parN l (bitsN a) (bitsN b) k : Nat) := by unfold tabN; rw [tabF_at _ _ _ h]
theorem tabN_bnd (l : List Int) (a b : Nat) {k : Nat} (h : k < (prodI l).toNat) : 0 ≤ (tabN l a b).getD k 0 ∧ (tabN l a b).getD k 0 ≤ 576 := by
  rw [tabN_at l a b h]
  have h1 := parN_le l (bitsN b) k (bitsN a)
  have h2 : (bitsN a).length * (bitsN b).length ≤ 24 * 24 := Nat.mul_le_mul (bits_le a) (bits_le b)
  omega
/-- The answers of the chapter. -/
def corE (l : List Int) (a b : Int) : List Int := if two l a b = true then tabN l a.toNat (ngN l b.toNat) else []
def engE (l : List Int) (a b : Int) : Int := if two l a b = true then accN (fun i => (tabN l a.toNat b.toNat).getD i 0 * (tabN l a.toNat b.toNat).getD i 0) (prodI l).toNat else -1
def quaE (l : List Int) (a : Int) : Int := if isS l a = true then quaN l a.toNat else -1
def popB (l : List Int) (a b t : Int) : Bool := two l a b && (decide (1 ≤ t) && decide (t ≤ 24))
def popE (l : List Int) (a b t : Int) : Int := if popB l a b t = true then ((selK (fun i => decide (t ≤ (tabN l a.toNat b.toNat).getD i 0)) (prodI l).toNat : Nat) : Int) else -1
def triB (l : List Int) (a b c : Int) : Bool := two l a b && isS l c
def triE (l : List Int) (a b c : Int) : Int := if triB l a b c = true then accN (fun i => bitI c.toNat i * (tabN l a.toNat b.toNat).getD i 0) (prodI l).toNat else -1
theorem eng_sq (l : List Int) (a b : Nat) : accN (fun i => (tabN l a b).getD i 0 * (tabN l a b).getD i 0) (prodI l).toNat = sqN l a b := by
  unfold sqN
  exact accN_congr (fun i hi => by rw [tabN_at l a b hi])
theorem qua_eng (l : List Int) (a : Int) : quaE l a = engE l a a := by
  unfold quaE engE two
  rw [Bool.and_self]
  cases h : isS l a with
  | false => rfl
  | true =>
    obtain ⟨hg, s, rfl, hs, _⟩ := isS_true h
    rw [if_pos rfl, if_pos rfl, eng_sq, qua_sq hg (by simpa using hs)]
/-- The program's way to count triples: the sums of each element that are in the third set. -/
theorem bits_acc {m n : Nat} (hm : m < 2 ^ n) (hn : n ≤ 24) : ((bitsN m).length : Int) = accN (bitI m) n := by
  rw [← upK_full hm hn]
  clear hm hn
  induction n with
  | zero => rfl
  | succ k ih =>
    simp only [accN]
    rw [← ih, upK_succ]
    unfold bitI
    by_cases h : m.testBit k = true
    · rw [if_pos h, if_pos h, List.length_append]; simp
    · rw [if_neg h, if_neg h]; omega
theorem tri_prog {l : List Int} (hg : grpB l = true) {a b c : Nat} (hb : b < 2 ^ (prodI l).toNat) : sumL (fun x => ((bitsN (movN l b x &&& c)).length : Int)) (bitsN a) = accN (fun i => bitI c i * (tabN l a b).getD i 0) (prodI l).toNat := by
  have hpr := (ords_grp hg).prod
  have e1 : sumL (fun x => ((bitsN (movN l b x &&& c)).length : Int)) (bitsN a) = sumL (fun x => accN (bitI (movN l b x &&& c)) (prodI l).toNat) (bitsN a) := sumL_congr (fun x _ => bits_acc (Nat.lt_of_le_of_lt Nat.and_le_left (movN_lt hg b x)) (by omega))
  rw [e1, sumL_accN]
  refine accN_congr (fun i hi => ?_)
  rw [tabN_at l a b hi, par_sumL]
  have : ∀ L : List Nat, sumL (fun x => bitI (movN l b x &&& c) i) L = bitI c i * sumL (fun x => (hitN l (bitsN b) x i : Int)) L := by
    intro L
    induction L with
    | nil => simp [sumL]
    | cons x t ih =>
      simp only [sumL]
      rw [ih, Int.mul_add, hit_iff hg hb]
      unfold bitI
      rw [Nat.testBit_and]
      cases (movN l b x).testBit i <;> cases c.testBit i <;> simp
  exact this _
theorem tri_comm (l : List Int) (a b c : Int) : triE l a b c = triE l b a c := by
  have e : triB l a b c = triB l b a c := by unfold triB two; rw [Bool.and_comm (isS l a)]
  unfold triE
  rw [e]
  split
  · exact accN_congr (fun i hi => by rw [tabN_at _ _ _ hi, tabN_at _ _ _ hi, parN_comm])
  · rfl
end Go.Proofs.YtfkleihnafeoeaaGreatDoor
