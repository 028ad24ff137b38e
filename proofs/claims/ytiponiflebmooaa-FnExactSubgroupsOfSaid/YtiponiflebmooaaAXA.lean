/- Merged: SetMem GrpAx SumMath SubMath. -/
import Derived.Test.YtiponiflebmooaaSetMath
import Derived.Test.YtiponiflebmooaaGRPA
namespace Go.Proofs.Ytiponiflebmooaa
theorem mem_bits {m : Nat} (h : m < 2 ^ 24) (x : Nat) : x ∈ bitsN m ↔ m.testBit x = true := by
  constructor
  · exact fun hx => (upK_mem hx).2
  · intro hb
    unfold bitsN upK
    rw [List.mem_filter, List.mem_range]
    refine ⟨?_, hb⟩
    rcases Nat.lt_or_ge x 24 with h1 | h1
    · exact h1
    · rw [bit_no h x h1] at hb; cases hb
theorem bits_nodup (m : Nat) : (bitsN m).Nodup := by
  unfold bitsN upK
  exact List.Pairwise.filter _ List.nodup_range
theorem orF_bit (f : Nat → Int) (L : List Nat) (k : Nat) : (orF f L).testBit k = true ↔ ∃ x ∈ L, (f x).toNat = k := by
  have : ∀ (L : List Nat) (s : Nat), (L.foldl (fun s x => s ||| 2 ^ (f x).toNat) s).testBit k = true ↔ s.testBit k = true ∨ ∃ x ∈ L, (f x).toNat = k := by
    intro L
    induction L with
    | nil => intro s; simp
    | cons x t ih =>
      intro s
      rw [List.foldl_cons, ih, Nat.testBit_or, Nat.testBit_two_pow, Bool.or_eq_true, decide_eq_true_eq]
      simp only [List.mem_cons]
      constructor
      · rintro ((h | h) | ⟨y, hy, h⟩)
        · exact .inl h
        · exact .inr ⟨x, .inl rfl, h⟩
        · exact .inr ⟨y, .inr hy, h⟩
      · rintro (h | ⟨y, rfl | hy, h⟩)
        · exact .inl (.inl h)
        · exact .inl (.inr h)
        · exact .inr ⟨y, hy, h⟩
  unfold orF
  rw [this L 0]; simp
/-- The number of a set that is moved by f lies within the group, if f does. -/
theorem orF_set {l : List Int} (hg : grpB l = true) (f : Nat → Int) (L : List Nat) (hf : ∀ x, 0 ≤ f x ∧ f x < prodI l) : isS l ((orF f L : Nat) : Int) = true := by
  have hlt := orF_lt f L (prodI l).toNat (fun x _ => by have := hf x; omega)
  simp only [isS, hg, fullN_nat, Bool.true_and, Bool.and_eq_true, decide_eq_true_eq]
  generalize orF f L = A at *
  generalize 2 ^ (prodI l).toNat = N at *
  omega
end Go.Proofs.Ytiponiflebmooaa

namespace Go.Proofs.Ytiponiflebmooaa
theorem sdig_bndO {l : List Int} (h : Ords l) (x y : Int) {j : Nat} (hj : j < l.length) : 0 ≤ sdig l x y j ∧ sdig l x y j < l.getD j 0 := by
  have := h.pos j hj
  exact ⟨Int.emod_nonneg _ (by omega), Int.emod_lt_of_pos _ (by omega)⟩
theorem addN_dig {l : List Int} (h : Ords l) (x y : Int) {j : Nat} (hj : j < l.length) : dig l (addN l x y) j = (dig l x j + dig l y j) % l.getD j 0 := by
  rw [← sdig_eq]
  exact dig_val h _ _ _ hj (Nat.le_refl _) (fun _ hi => sdig_bndO h x y hi)
theorem addN_in {l : List Int} (h : Ords l) (x y : Int) : 0 ≤ addN l x y ∧ addN l x y < prodI l := by
  rw [← PK_full]; exact h.val_bnd _ (fun j hj => sdig_bndO h x y hj) _ (Nat.le_refl _)
theorem addN_comm (l : List Int) (x y : Int) : addN l x y = addN l y x := by
  apply val_congr
  intro j _
  rw [sdig_eq, sdig_eq, Int.add_comm]
theorem addN_assoc {l : List Int} (h : Ords l) (x y z : Int) : addN l (addN l x y) z = addN l x (addN l y z) := by
  apply val_congr
  intro j hj
  rw [sdig_eq, sdig_eq, addN_dig h x y hj, addN_dig h y z hj, Int.emod_add_emod, Int.add_emod_emod, Int.add_assoc]
theorem dig_zero0 (l : List Int) (j : Nat) : dig l 0 j = 0 := by unfold dig; simp
theorem addN_zero {l : List Int} (h : Ords l) {x : Int} (h0 : 0 ≤ x) (h1 : x < prodI l) : addN l x 0 = x := by
  have e : addN l x 0 = valK l (dig l x) l.length := by
    apply val_congr
    intro j _
    rw [sdig_eq, dig_zero0, Int.add_zero]
    unfold dig; rw [Int.emod_emod]
  rw [e, val_dig h h0 h1]
theorem addN_neg {l : List Int} (h : Ords l) (x : Int) : addN l x (negN l x) = 0 := by
  have e : addN l x (negN l x) = valK l (fun _ => 0) l.length := by
    apply val_congr
    intro j hj
    rw [sdig_eq]
    unfold negN
    rw [mulN_dig h x (-1) hj]
    unfold mulF
    rw [Int.add_emod_emod]
    rw [show dig l x j + dig l x j * -1 = 0 by omega]
    simp
  rw [e]
  have : ∀ k, valK l (fun _ => 0) k = 0 := by
    intro k; induction k with
    | zero => rfl
    | succ k ih => simp [valK, ih]
  exact this _
theorem add_neg_back {l : List Int} (h : Ords l) {x : Int} (y : Int) (h0 : 0 ≤ x) (h1 : x < prodI l) : addN l (addN l x y) (negN l y) = x := by
  rw [addN_assoc h, addN_neg h, addN_zero h h0 h1]
theorem negN_in {l : List Int} (h : Ords l) (x : Int) : 0 ≤ negN l x ∧ negN l x < prodI l := mulN_bnd h x (-1)
theorem negN_neg {l : List Int} (h : Ords l) {x : Int} (h0 : 0 ≤ x) (h1 : x < prodI l) : negN l (negN l x) = x := by
  show mulN l (negN l x) (-1) = x
  rw [mul_neg h, show (- -1 : Int) = 1 by decide, mulN_one h h0 h1]
/-- A list without doubles is no longer than one that holds it. -/
theorem len_le_of_sub : ∀ (L M : List Nat), L.Nodup → (∀ x ∈ L, x ∈ M) → L.length ≤ M.length
  | [], _, _, _ => by simp
  | x :: t, M, hn, hs => by
    rw [List.nodup_cons] at hn
    have hx := hs x (by simp)
    have := len_le_of_sub t (M.erase x) hn.2 (fun y hy => (List.mem_erase_of_ne (fun e => hn.1 (by rw [← e]; exact hy))).2 (hs y (by simp [hy])))
    rw [List.length_erase_of_mem hx] at this
    have := List.length_pos_of_mem hx
    rw [List.length_cons]; omega
end Go.Proofs.Ytiponiflebmooaa

namespace Go.Proofs.Ytiponiflebmooaa
/-- The union of the sets G x for the x of a list. -/
def orG (G : Nat → Nat) (L : List Nat) : Nat := L.foldl (fun s x => s ||| G x) 0
theorem orG_nil (G : Nat → Nat) : orG G [] = 0 := rfl
theorem orG_snoc (G : Nat → Nat) (L : List Nat) (x : Nat) : orG G (L ++ [x]) = orG G L ||| G x := by simp [orG]
theorem orG_bit (G : Nat → Nat) (L : List Nat) (k : Nat) : (orG G L).testBit k = true ↔ ∃ x ∈ L, (G x).testBit k = true := by
  have : ∀ (L : List Nat) (s : Nat), (L.foldl (fun s x => s ||| G x) s).testBit k = true ↔ s.testBit k = true ∨ ∃ x ∈ L, (G x).testBit k = true := by
    intro L
    induction L with
    | nil => intro s; simp
    | cons x t ih =>
      intro s
      rw [List.foldl_cons, ih, Nat.testBit_or, Bool.or_eq_true]
      simp only [List.mem_cons]
      constructor
      · rintro ((h | h) | ⟨y, hy, h⟩)
        · exact .inl h
        · exact .inr ⟨x, .inl rfl, h⟩
        · exact .inr ⟨y, .inr hy, h⟩
      · rintro (h | ⟨y, rfl | hy, h⟩)
        · exact .inl (.inl h)
        · exact .inl (.inr h)
        · exact .inr ⟨y, hy, h⟩
  unfold orG
  rw [this L 0]; simp
theorem orG_lt (G : Nat → Nat) (L : List Nat) (k : Nat) (h : ∀ x ∈ L, G x < 2 ^ k) : orG G L < 2 ^ k := by
  apply Nat.lt_pow_two_of_testBit
  intro i hi
  cases hb : (orG G L).testBit i with
  | false => rfl
  | true =>
    obtain ⟨x, hx, h2⟩ := (orG_bit G L i).1 hb
    rw [bit_no (h x hx) i hi] at h2; cases h2
theorem orG_congr (G H : Nat → Nat) (L : List Nat) (h : ∀ x ∈ L, G x = H x) : orG G L = orG H L := by
  apply Nat.eq_of_testBit_eq
  intro i
  apply Bool.eq_iff_iff.2
  rw [orG_bit, orG_bit]
  constructor
  · rintro ⟨x, hx, h2⟩; exact ⟨x, hx, by rw [← h x hx]; exact h2⟩
  · rintro ⟨x, hx, h2⟩; exact ⟨x, hx, by rw [h x hx]; exact h2⟩
/-- All bits of one are bits of the other, and the other way. -/
theorem bits_same {a b : Nat} (h : ∀ i, a.testBit i = true ↔ b.testBit i = true) : a = b := by
  apply Nat.eq_of_testBit_eq
  intro i
  exact Bool.eq_iff_iff.2 (h i)
/-- The set a moved by x. -/
def movN (l : List Int) (a x : Nat) : Nat := orF (fun y => addN l (y : Int) (x : Int)) (bitsN a)
theorem movN_lt {l : List Int} (hg : grpB l = true) (a x : Nat) : movN l a x < 2 ^ (prodI l).toNat := by
  have ho := ords_grp hg
  exact orF_lt _ _ _ (fun y _ => by have := addN_in ho (y : Int) (x : Int); have := ho.prod; show (addN l (y : Int) (x : Int)).toNat < _; omega)
theorem grp_pow {l : List Int} (hg : grpB l = true) {a : Nat} (h : a < 2 ^ (prodI l).toNat) : a < 2 ^ 24 :=
  Nat.lt_of_lt_of_le h (Nat.pow_le_pow_right (by decide) (by have := (grpB_true hg).2.2; omega))
theorem movN_bit (l : List Int) {a : Nat} (ha : a < 2 ^ 24) (x z : Nat) : (movN l a x).testBit z = true ↔ ∃ y, a.testBit y = true ∧ (addN l (y : Int) (x : Int)).toNat = z := by
  unfold movN
  rw [orF_bit]
  constructor
  · rintro ⟨y, hy, h⟩; exact ⟨y, (mem_bits ha y).1 hy, h⟩
  · rintro ⟨y, hy, h⟩; exact ⟨y, (mem_bits ha y).2 hy, h⟩
/-- The sum of two sets: b's elements, each with the set a moved by it. -/
def sumN (l : List Int) (a b : Nat) : Nat := orG (fun x => movN l a x) (bitsN b)
theorem sumN_lt {l : List Int} (hg : grpB l = true) (a b : Nat) : sumN l a b < 2 ^ (prodI l).toNat := orG_lt _ _ _ (fun x _ => movN_lt hg a x)
theorem sumN_bit (l : List Int) {a b : Nat} (ha : a < 2 ^ 24) (hb : b < 2 ^ 24) (z : Nat) : (sumN l a b).testBit z = true ↔ ∃ x y, b.testBit x = true ∧ a.testBit y = true ∧ (addN l (y : Int) (x : Int)).toNat = z := by
  unfold sumN
  rw [orG_bit]
  constructor
  · rintro ⟨x, hx, h⟩
    obtain ⟨y, hy, e⟩ := (movN_bit l ha x z).1 h
    exact ⟨x, y, (mem_bits hb x).1 hx, hy, e⟩
  · rintro ⟨x, y, hx, hy, e⟩
    exact ⟨x, (mem_bits hb x).2 hx, (movN_bit l ha x z).2 ⟨y, hy, e⟩⟩
theorem sumN_comm (l : List Int) {a b : Nat} (ha : a < 2 ^ 24) (hb : b < 2 ^ 24) : sumN l a b = sumN l b a :=
  bits_same fun z => by
    rw [sumN_bit l ha hb, sumN_bit l hb ha]
    constructor
    · rintro ⟨x, y, hx, hy, e⟩; exact ⟨y, x, hy, hx, by rw [addN_comm]; exact e⟩
    · rintro ⟨x, y, hx, hy, e⟩; exact ⟨y, x, hy, hx, by rw [addN_comm]; exact e⟩
theorem isS_of {l : List Int} (hg : grpB l = true) {a : Nat} (h : a < 2 ^ (prodI l).toNat) : isS l (a : Int) = true := by
  simp only [isS, hg, fullN_nat, Bool.true_and, Bool.and_eq_true, decide_eq_true_eq]
  generalize 2 ^ (prodI l).toNat = N at *
  omega
theorem isS_neg {l : List Int} {a : Int} (h : a < 0) : isS l a = false := by
  simp [isS]; intro; omega
/-- Whether both are sets of the group. -/
def two (l : List Int) (a b : Int) : Bool := isS l a && isS l b
def sumE (l : List Int) (a b : Int) : Int := if two l a b = true then (sumN l a.toNat b.toNat : Nat) else -1
/-- The negative of a set. -/
def ngN (l : List Int) (a : Nat) : Nat := orF (fun y => negN l (y : Int)) (bitsN a)
theorem ngN_lt {l : List Int} (hg : grpB l = true) (a : Nat) : ngN l a < 2 ^ (prodI l).toNat := by
  have ho := ords_grp hg
  exact orF_lt _ _ _ (fun y _ => by have := negN_in ho (y : Int); have := ho.prod; show (negN l (y : Int)).toNat < _; omega)
def difE (l : List Int) (a b : Int) : Int := if two l a b = true then (sumN l a.toNat (ngN l b.toNat) : Nat) else -1
/-- The sum of a set with itself, k times. -/
def powS (l : List Int) (a : Nat) : Nat → Nat
  | 0 => 1
  | k + 1 => sumN l (powS l a k) a
theorem powS_lt {l : List Int} (hg : grpB l = true) (a : Nat) : ∀ k, powS l a k < 2 ^ (prodI l).toNat
  | 0 => by
    have := (ords_grp hg).prod
    show 1 < _
    exact Nat.lt_of_lt_of_le (by decide : 1 < 2 ^ 1) (Nat.pow_le_pow_right (by decide) (by omega))
  | k + 1 => sumN_lt hg _ _
def mltE (l : List Int) (a n : Int) : Int := if isS l a = true then (if 0 ≤ n ∧ n ≤ 30 then (powS l a.toNat n.toNat : Nat) else -1) else -1
/-- A set without an element. -/
def woN (b x : Nat) : Nat := b ^^^ (b &&& 2 ^ x)
theorem woN_bit (b x i : Nat) : (woN b x).testBit i = (b.testBit i && decide (i ≠ x)) := by
  unfold woN
  rw [Nat.testBit_xor, Nat.testBit_and, Nat.testBit_two_pow]
  by_cases h : x = i
  · subst h; simp
  · have h2 : i ≠ x := fun e => h e.symm
    simp [h, h2]
theorem woN_le (b x : Nat) {n : Nat} (h : b < 2 ^ n) : woN b x < 2 ^ n := by
  apply Nat.lt_pow_two_of_testBit
  intro i hi
  rw [woN_bit, bit_no h i hi, Bool.false_and]
theorem bits_wo (b x : Nat) : bitsN (woN b x) = (bitsN b).filter (fun y => decide (y ≠ x)) := by
  unfold bitsN upK
  rw [List.filter_filter]
  apply List.filter_congr
  intro i _
  rw [woN_bit, Bool.and_comm]
/-- The sums of different elements. -/
def rstN (l : List Int) (a b : Nat) : Nat := orG (fun x => movN l (woN b x) x) (bitsN a)
theorem rstN_lt {l : List Int} (hg : grpB l = true) (a b : Nat) : rstN l a b < 2 ^ (prodI l).toNat := orG_lt _ _ _ (fun x _ => movN_lt hg _ x)
def rstE (l : List Int) (a b : Int) : Int := if two l a b = true then (rstN l a.toNat b.toNat : Nat) else -1
/-- The sums of parts of a list of elements. -/
def subK (l : List Int) (L : List Nat) : Nat := L.foldl (fun s x => s ||| movN l s x) 1
theorem subK_snoc (l : List Int) (L : List Nat) (x : Nat) : subK l (L ++ [x]) = subK l L ||| movN l (subK l L) x := by simp [subK]
theorem subK_lt {l : List Int} (hg : grpB l = true) (L : List Nat) : subK l L < 2 ^ (prodI l).toNat := by
  unfold subK
  have : ∀ (L : List Nat) (s : Nat), s < 2 ^ (prodI l).toNat → L.foldl (fun s x => s ||| movN l s x) s < 2 ^ (prodI l).toNat := by
    intro L
    induction L with
    | nil => intro s h; exact h
    | cons x t ih => intro s h; exact ih _ (Nat.or_lt_two_pow h (movN_lt hg _ _))
  exact this L 1 (powS_lt hg 0 0)
def subE (l : List Int) (a : Int) : Int := if isS l a = true then (subK l (bitsN a.toNat) : Nat) else -1
/-- How many of a list's elements add up to z with u. -/
def hitN (l : List Int) (M : List Nat) (u z : Nat) : Nat := M.countP (fun (v : Nat) => (addN l (u : Int) ((v : Nat) : Int)).toNat == z)
/-- How many pairs of an element of L and one of M add up to z. -/
def parN (l : List Int) (L M : List Nat) (z : Nat) : Nat := (L.map fun u => hitN l M u z).sum
theorem parN_snoc (l : List Int) (L M : List Nat) (x z : Nat) : parN l (L ++ [x]) M z = parN l L M z + hitN l M x z := by simp [parN]
theorem hitN_snoc (l : List Int) (M : List Nat) (u v z : Nat) : hitN l (M ++ [v]) u z = hitN l M u z + (if (addN l (u : Int) (v : Int)).toNat = z then 1 else 0) := by
  unfold hitN
  rw [List.countP_append, List.countP_singleton]
  simp
theorem hitN_le (l : List Int) (M : List Nat) (u z : Nat) : hitN l M u z ≤ M.length := List.countP_le_length
theorem parN_le (l : List Int) (M : List Nat) (z : Nat) : ∀ L : List Nat, parN l L M z ≤ L.length * M.length
  | [] => by simp [parN]
  | u :: t => by
    have := parN_le l M z t
    have h := hitN_le l M u z
    simp only [parN, List.map_cons, List.sum_cons, List.length_cons, Nat.add_mul, Nat.one_mul] at *
    omega
/-- A list without doubles in which at most one element fits: how many fit. -/
theorem countP_one (p : Nat → Bool) : ∀ (L : List Nat), L.Nodup → (∀ x ∈ L, ∀ y ∈ L, p x = true → p y = true → x = y) → L.countP p = if (∃ x ∈ L, p x = true) then 1 else 0
  | [], _, _ => by simp
  | x :: t, hn, hu => by
    rw [List.nodup_cons] at hn
    have ih := countP_one p t hn.2 (fun a ha b hb => hu a (by simp [ha]) b (by simp [hb]))
    rw [List.countP_cons, ih]
    by_cases hx : p x = true
    · have : ¬ ∃ y ∈ t, p y = true := fun ⟨y, hy, h⟩ => hn.1 (by rw [hu x (by simp) y (by simp [hy]) hx h]; exact hy)
      rw [if_neg this, if_pos hx, if_pos ⟨x, by simp, hx⟩]
    · rw [if_neg hx]
      by_cases h : ∃ y ∈ t, p y = true
      · obtain ⟨y, hy, h2⟩ := h
        rw [if_pos ⟨y, hy, h2⟩, if_pos ⟨y, by simp [hy], h2⟩]
      · rw [if_neg h, if_neg]
        rintro ⟨y, hy, h2⟩
        rcases List.mem_cons.1 hy with rfl | hy
        · exact hx h2
        · exact h ⟨y, hy, h2⟩
/-- An element is told from its sum with u. -/
theorem add_inj {l : List Int} (ho : Ords l) {u x y : Int} (hx0 : 0 ≤ x) (hx : x < prodI l) (hy0 : 0 ≤ y) (hy : y < prodI l) (h : addN l x u = addN l y u) : x = y := by
  rw [← add_neg_back ho u hx0 hx, h, add_neg_back ho u hy0 hy]
theorem grp_elt {l : List Int} (hg : grpB l = true) {a : Nat} (h : a < 2 ^ (prodI l).toNat) {x : Nat} (hx : x ∈ bitsN a) : (x : Int) < prodI l := by
  have h2 : x < (prodI l).toNat := by
    rcases Nat.lt_or_ge x (prodI l).toNat with h1 | h1
    · exact h1
    · have := (upK_mem hx).2; rw [bit_no h x h1] at this; cases this
  have := (ords_grp hg).prod
  omega
theorem hit_iff {l : List Int} (hg : grpB l = true) {b : Nat} (hb : b < 2 ^ (prodI l).toNat) (u z : Nat) : hitN l (bitsN b) u z = if (movN l b u).testBit z = true then 1 else 0 := by
  have ho := ords_grp hg
  unfold hitN
  rw [countP_one _ _ (bits_nodup b) (fun x hx y hy h1 h2 => by
    simp only [beq_iff_eq] at h1 h2
    have a1 := addN_in ho (u : Int) (x : Int)
    have a2 := addN_in ho (u : Int) (y : Int)
    have e : addN l (x : Int) (u : Int) = addN l (y : Int) (u : Int) := by
      rw [addN_comm l x u, addN_comm l y u]; omega
    have := add_inj ho (by omega) (grp_elt hg hb hx) (by omega) (grp_elt hg hb hy) e
    omega)]
  have e : (∃ x ∈ bitsN b, ((addN l (u : Int) (x : Int)).toNat == z) = true) ↔ (movN l b u).testBit z = true := by
    rw [movN_bit l (grp_pow hg hb)]
    constructor
    · rintro ⟨x, hx, h⟩
      exact ⟨x, (mem_bits (grp_pow hg hb) x).1 hx, by rw [addN_comm]; simpa using h⟩
    · rintro ⟨x, hx, h⟩
      exact ⟨x, (mem_bits (grp_pow hg hb) x).2 hx, by rw [addN_comm] at h; simpa using h⟩
  by_cases h : (movN l b u).testBit z = true
  · rw [if_pos (e.2 h), if_pos h]
  · rw [if_neg (fun h2 => h (e.1 h2)), if_neg h]
/-- The elements of a in a pair with the sum z: those u with z - u in b. -/
theorem count_par {l : List Int} (hg : grpB l = true) {a b : Nat} (ha : a < 2 ^ (prodI l).toNat) (hb : b < 2 ^ (prodI l).toNat) {z : Nat} (hz : (z : Int) < prodI l) :
    parN l (bitsN a) (bitsN b) z = (bitsN (a &&& movN l (ngN l b) z)).length := by
  have ho := ords_grp hg
  have hb24 := grp_pow hg hb
  have hn24 := grp_pow hg (ngN_lt hg b)
  have h1 : ∀ L : List Nat, parN l L (bitsN b) z = (L.filter (fun u => (movN l b u).testBit z)).length := by
    intro L
    induction L with
    | nil => simp [parN]
    | cons u t ih =>
      have : parN l (u :: t) (bitsN b) z = hitN l (bitsN b) u z + parN l t (bitsN b) z := by simp [parN]
      rw [this, ih, hit_iff hg hb, List.filter_cons]
      by_cases h : (movN l b u).testBit z = true
      · rw [if_pos h, if_pos h, List.length_cons]; omega
      · rw [if_neg h, if_neg h]; omega
  rw [h1]
  congr 1
  unfold bitsN upK
  rw [List.filter_filter]
  apply List.filter_congr
  intro u hu
  rw [Nat.testBit_and]
  cases hau : a.testBit u with
  | false => simp
  | true =>
    simp only [Bool.true_and, Bool.and_true]
    apply Bool.eq_iff_iff.2
    have hup : (u : Int) < prodI l := grp_elt hg ha ((mem_bits (grp_pow hg ha) u).2 hau)
    rw [movN_bit l hb24, movN_bit l hn24]
    constructor
    · rintro ⟨y, hy, e⟩
      have hyp : (y : Int) < prodI l := grp_elt hg hb ((mem_bits hb24 y).2 hy)
      have n1 := negN_in ho (y : Int)
      refine ⟨(negN l (y : Int)).toNat, ?_, ?_⟩
      · unfold ngN; rw [orF_bit]; exact ⟨y, (mem_bits hb24 y).2 hy, rfl⟩
      · rw [Int.toNat_of_nonneg n1.1]
        have a1 := addN_in ho (y : Int) (u : Int)
        have e2 : (z : Int) = addN l (u : Int) (y : Int) := by rw [addN_comm]; omega
        rw [e2, addN_comm, add_neg_back ho (y : Int) (by omega) hup]; omega
    · rintro ⟨y, hy, e⟩
      unfold ngN at hy
      rw [orF_bit] at hy
      obtain ⟨v, hv, rfl⟩ := hy
      have hvp : (v : Int) < prodI l := grp_elt hg hb hv
      have n1 := negN_in ho (v : Int)
      rw [Int.toNat_of_nonneg n1.1] at e
      refine ⟨v, (mem_bits hb24 v).1 hv, ?_⟩
      have a1 := addN_in ho (negN l (v : Int)) (z : Int)
      have e2 : (u : Int) = addN l (z : Int) (negN l (v : Int)) := by rw [addN_comm]; omega
      rw [e2, addN_comm, addN_assoc ho, addN_comm l (negN l (v : Int)) (v : Int), addN_neg ho, addN_zero ho (by omega) hz]; omega
/-- The table of all sums' counts. -/
def tabF (F : Nat → Nat) (n : Nat) : List Int := (List.range n).map fun z => ((F z : Nat) : Int)
theorem tabF_len (F : Nat → Nat) (n : Nat) : (tabF F n).length = n := by simp [tabF]
theorem tabF_at (F : Nat → Nat) (n k : Nat) (h : k < n) : (tabF F n).getD k 0 = (F k : Nat) := by simp [tabF, List.getD, h]
theorem tabF_congr {F G : Nat → Nat} {n : Nat} (h : ∀ z, z < n → F z = G z) : tabF F n = tabF G n := by
  unfold tabF
  apply List.map_congr_left
  intro z hz
  rw [h z (List.mem_range.1 hz)]
theorem tabF_zero (n : Nat) : tabF (fun _ => 0) n = List.replicate n 0 := by
  unfold tabF; rw [List.map_const']; simp
theorem tabF_set (F : Nat → Nat) (n k : Nat) (_ : k < n) : (tabF F n).set k ((F k + 1 : Nat) : Int) = tabF (fun z => F z + (if k = z then 1 else 0)) n := by
  apply List.ext_getElem?
  intro j
  unfold tabF
  rw [List.getElem?_set]
  by_cases hj : j < n
  · by_cases h : k = j
    · subst h; simp [hj]
    · simp [h, hj]
  · have : (List.range n)[j]? = none := by simp; omega
    by_cases h : k = j
    · subst h; simp [hj]
    · simp [h, this]
/-- The counts of all pairs of two sets. -/
def tabN (l : List Int) (a b : Nat) : List Int := tabF (parN l (bitsN a) (bitsN b)) (prodI l).toNat
def tabE (l : List Int) (a b : Int) : List Int := if two l a b = true then tabN l a.toNat b.toNat else []
def cntS (l : List Int) (a b x : Int) : Int := if two l a b = true ∧ 0 ≤ x ∧ x < prodI l then (parN l (bitsN a.toNat) (bitsN b.toNat) x.toNat : Nat) else -1
end Go.Proofs.Ytiponiflebmooaa

namespace Go.Proofs.Ytiponiflebmooaa
/-- Every element of the first is one of the second. -/
def Part (s t : Nat) : Prop := ∀ k, s.testBit k = true → t.testBit k = true
theorem Part.same {s t : Nat} (h : Part s t) (g : Part t s) : s = t := bits_same fun i => ⟨h i, g i⟩
/-- s has 0, and a's elements do not lead out of it. -/
def Keeps (l : List Int) (a s : Nat) : Prop := s.testBit 0 = true ∧ ∀ x y : Nat, a.testBit x = true → s.testBit y = true → s.testBit (addN l (y : Int) (x : Int)).toNat = true
/-- s is what a generates. -/
structure IsClo (l : List Int) (a s : Nat) : Prop where
  lt : s < 2 ^ (prodI l).toNat
  keeps : Keeps l a s
  least : ∀ t, Keeps l a t → Part s t
theorem IsClo.one {l : List Int} {a s t : Nat} (h : IsClo l a s) (g : IsClo l a t) : s = t := (h.least t g.keeps).same (g.least s h.keeps)
/-- What stands while it is being made. -/
structure CloInv (l : List Int) (a s : Nat) : Prop where
  lt : s < 2 ^ (prodI l).toNat
  zero : s.testBit 0 = true
  least : ∀ t, Keeps l a t → Part s t
theorem cloInv_one {l : List Int} (hg : grpB l = true) (a : Nat) : CloInv l a 1 where
  lt := by
    have := (ords_grp hg).prod.1
    exact Nat.one_lt_two_pow (by omega)
  zero := rfl
  least := fun t h k hk => by
    cases k with
    | zero => exact h.1
    | succ k => rw [Nat.testBit_succ] at hk; simp at hk
theorem cloInv_step {l : List Int} (hg : grpB l = true) {a s : Nat} (ha : a < 2 ^ 24) (h : CloInv l a s) : CloInv l a (s ||| sumN l s a) where
  lt := Nat.or_lt_two_pow h.lt (sumN_lt hg s a)
  zero := by rw [Nat.testBit_or, h.zero]; rfl
  least := fun t ht k hk => by
    rw [Nat.testBit_or] at hk
    rcases Bool.or_eq_true_iff.1 hk with h1 | h1
    · exact h.least t ht k h1
    · obtain ⟨x, y, hx, hy, hz⟩ := (sumN_bit l (grp_pow hg h.lt) ha k).1 h1
      rw [← hz]; exact ht.2 x y hx (h.least t ht y hy)
theorem cloInv_end {l : List Int} (hg : grpB l = true) {a s : Nat} (ha : a < 2 ^ 24) (h : CloInv l a s) (he : s ||| sumN l s a = s) : IsClo l a s where
  lt := h.lt
  keeps := ⟨h.zero, fun x y hx hy => by
    rw [← he, Nat.testBit_or]
    exact Bool.or_eq_true_iff.2 (.inr ((sumN_bit l (grp_pow hg h.lt) ha _).2 ⟨x, y, hx, hy, rfl⟩))⟩
  least := h.least
theorem or_grow {s v : Nat} (h : s ||| v ≠ s) : s < s ||| v := by
  have : s ≤ s ||| v := Nat.left_le_or
  omega
theorem clo_from {l : List Int} (hg : grpB l = true) {a : Nat} (ha : a < 2 ^ 24) : ∀ (k s : Nat), 2 ^ 24 - s ≤ k → CloInv l a s → ∃ c, IsClo l a c
  | 0, s, hk, h => absurd (grp_pow hg h.lt) (by omega)
  | k + 1, s, hk, h => by
    by_cases he : s ||| sumN l s a = s
    · exact ⟨s, cloInv_end hg ha h he⟩
    · have h1 := or_grow he
      have h2 := cloInv_step hg ha h
      exact clo_from hg ha k _ (by omega) h2
theorem clo_ex {l : List Int} (hg : grpB l = true) {a : Nat} (ha : a < 2 ^ 24) : ∃ c, IsClo l a c := clo_from hg ha (2 ^ 24) 1 (by omega) (cloInv_one hg a)
theorem el_of {l : List Int} (hg : grpB l = true) {s k : Nat} (hs : s < 2 ^ (prodI l).toNat) (h : s.testBit k = true) : (k : Int) < prodI l := by
  have hp := (ords_grp hg).prod.1
  by_cases hk : (prodI l).toNat ≤ k
  · rw [bit_no hs k hk] at h; cases h
  · omega
theorem nat_add {l : List Int} (h : Ords l) (x y : Int) : (((addN l x y).toNat : Nat) : Int) = addN l x y := Int.toNat_of_nonneg (addN_in h x y).1
theorem nat_neg {l : List Int} (h : Ords l) (x : Int) : (((negN l x).toNat : Nat) : Int) = negN l x := Int.toNat_of_nonneg (negN_in h x).1
theorem zero_add' {l : List Int} (hg : grpB l = true) {x : Nat} (hx : (x : Int) < prodI l) : (addN l ((0 : Nat) : Int) (x : Int)).toNat = x := by
  rw [addN_comm, show (((0 : Nat) : Nat) : Int) = 0 from rfl, addN_zero (ords_grp hg) (by omega) hx]; simp
/-- What a generates holds a. -/
theorem IsClo.holds {l : List Int} (hg : grpB l = true) {a c : Nat} (ha : a < 2 ^ (prodI l).toNat) (h : IsClo l a c) : Part a c := fun x hx => by
  have := h.keeps.2 x 0 hx h.keeps.1
  rwa [zero_add' hg (el_of hg ha hx)] at this
/-- A subgroup: with 0, and its own sums. -/
def IsSg (l : List Int) (s : Nat) : Prop := s < 2 ^ (prodI l).toNat ∧ Keeps l s s
theorem IsClo.self {l : List Int} (hg : grpB l = true) {a c : Nat} (ha : a < 2 ^ (prodI l).toNat) (h : IsClo l a c) : c = a ↔ IsSg l a :=
  ⟨fun e => by subst e; exact ⟨ha, h.keeps⟩, fun s => (h.least a s.2).same (h.holds hg ha)⟩
/-- What a generates is a subgroup. -/
theorem IsClo.sg {l : List Int} (hg : grpB l = true) {a c : Nat} (h : IsClo l a c) : IsSg l c := by
  refine ⟨h.lt, h.keeps.1, fun x y hx hy => ?_⟩
  -- the elements x of c that lead into c from everywhere in c
  have hO := ords_grp hg
  have key : ∀ (k : Nat), c.testBit k = true → ∀ y, c.testBit y = true → c.testBit (addN l (y : Int) (k : Int)).toNat = true := by
    let t := orF (fun x : Nat => (x : Int)) ((bitsN c).filter fun x => (bitsN c).all fun y => c.testBit (addN l (y : Int) (x : Int)).toNat)
    have c24 := grp_pow hg h.lt
    have ht : ∀ k, t.testBit k = true ↔ c.testBit k = true ∧ ∀ y, c.testBit y = true → c.testBit (addN l (y : Int) (k : Int)).toNat = true := fun k => by
      show (orF _ _).testBit k = true ↔ _
      rw [orF_bit]
      constructor
      · rintro ⟨x, hx, e⟩
        rw [Int.toNat_natCast] at e
        subst e
        rw [List.mem_filter] at hx
        refine ⟨(mem_bits c24 _).1 hx.1, fun y hy => ?_⟩
        have := List.all_eq_true.1 hx.2 y ((mem_bits c24 y).2 hy)
        simpa using this
      · rintro ⟨h1, h2⟩
        refine ⟨k, List.mem_filter.2 ⟨(mem_bits c24 k).2 h1, List.all_eq_true.2 fun y hy => h2 y ((mem_bits c24 y).1 hy)⟩, by simp⟩
    have hk : Keeps l a t := by
      refine ⟨(ht 0).2 ⟨h.keeps.1, fun y hy => ?_⟩, fun x y hx hy => (ht _).2 ⟨h.keeps.2 x y hx ((ht y).1 hy).1, fun z hz => ?_⟩⟩
      · rw [show (((0 : Nat) : Nat) : Int) = 0 from rfl, addN_zero hO (by omega) (el_of hg h.lt hy)]; simpa using hy
      · rw [nat_add hO, ← addN_assoc hO, ← nat_add hO (z : Int) (y : Int)]
        exact h.keeps.2 x _ hx (((ht y).1 hy).2 z hz)
    exact fun k hk' => ((ht k).1 (h.least t hk k hk')).2
  exact key x hx y hy
end Go.Proofs.Ytiponiflebmooaa
