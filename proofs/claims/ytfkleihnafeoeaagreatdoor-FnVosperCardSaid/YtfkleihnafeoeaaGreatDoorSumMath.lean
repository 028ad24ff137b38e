/- Plain mathematics of sums of sets: unions over the elements of a set, sums, restricted sums, sums of parts, counts of pairs. -/
import Derived.Test.YtfkleihnafeoeaaGreatDoorSetMem
import Derived.Test.YtfkleihnafeoeaaGreatDoorGrpAx
namespace Go.Proofs.YtfkleihnafeoeaaGreatDoor
/-- The union of the sets G x for the x of a list. -/
def orG (G : Nat → Nat) (L : List Nat) : Nat := L.foldl (fun s x => s ||| G x) 0
theorem orG_nil (G : Nat → Nat) : orG G [] = 0 := rfl
theorem orG_snoc (G : Nat → Nat) (L : List Nat) (x : Nat) : orG G (L ++ [x]) = orG G L ||| G x := by simp [orG]
theorem orG_bit (G : Nat → Nat) (L : List Nat) (k : Nat) : (orG G L).testBit k = true ↔ ∃ x ∈ L, (G x).testBit k = true := by
  have : ∀ (L : List Nat) (s : Nat), (L.foldl (fun s x => s ||| G x) s).testBit k = true ↔ s.testBit k = true ∨ ∃ x ∈ L, (G x).testBit k = true := by
    intro L
    induction L with
    | nil => intro s; simp
    | cons x t ih =>
      intro s
      rw [List.foldl_cons, ih, Nat.testBit_or, Bool.or_eq_true]
      simp only [List.mem_cons]
      constructor
      · rintro ((h | h) | ⟨y, hy, h⟩)
        · exact .inl h
        · exact .inr ⟨x, .inl rfl, h⟩
        · exact .inr ⟨y, .inr hy, h⟩
      · rintro (h | ⟨y, rfl | hy, h⟩)
        · exact .inl (.inl h)
        · exact .inl (.inr h)
        · exact .inr ⟨y, hy, h⟩
  unfold orG
  rw [this L 0]; simp
theorem orG_lt (G : Nat → Nat) (L : List Nat) (k : Nat) (h : ∀ x ∈ L, G x < 2 ^ k) : orG G L < 2 ^ k := by
  apply Nat.lt_pow_two_of_testBit
  intro i hi
  cases hb : (orG G L).testBit i with
  | false => rfl
  | true =>
    obtain ⟨x, hx, h2⟩ := (orG_bit G L i).1 hb
    rw [bit_no (h x hx) i hi] at h2; cases h2
theorem orG_congr (G H : Nat → Nat) (L : List Nat) (h : ∀ x ∈ L, G x = H x) : orG G L = orG H L := by
  apply Nat.eq_of_testBit_eq
  intro i
  apply Bool.eq_iff_iff.2
  rw [orG_bit, orG_bit]
  constructor
  · rintro ⟨x, hx, h2⟩; exact ⟨x, hx, by rw [← h x hx]; exact h2⟩
  · rintro ⟨x, hx, h2⟩; exact ⟨x, hx, by rw [h x hx]; exact h2⟩
/-- All bits of one are bits of the other, and the other way. -/
theorem bits_same {a b : Nat} (h : ∀ i, a.testBit i = true ↔ b.testBit i = true) : a = b := by
  apply Nat.eq_of_testBit_eq
  intro i
  exact Bool.eq_iff_iff.2 (h i)
/-- The set a moved by x. -/
def movN (l : List Int) (a x : Nat) : Nat := orF (fun y => addN l (y : Int) (x : Int)) (bitsN a)
theorem movN_lt {l : List Int} (hg : grpB l = true) (a x : Nat) : movN l a x < 2 ^ (prodI l).toNat := by
  have ho := ords_grp hg
  exact orF_lt _ _ _ (fun y _ => by have := addN_in ho (y : Int) (x : Int); have := ho.prod; show (addN l (y : Int) (x : Int)).toNat < _; omega)
theorem grp_pow {l : List Int} (hg : grpB l = true) {a : Nat} (h : a < 2 ^ (prodI l).toNat) : a < 2 ^ 24 :=
  Nat.lt_of_lt_of_le h (Nat.pow_le_pow_right (by decide) (by have := (grpB_true hg).2.2; omega))
theorem movN_bit (l : List Int) {a : Nat} (ha : a < 2 ^ 24) (x z : Nat) : (movN l a x).testBit z = true ↔ ∃ y, a.testBit y = true ∧ (addN l (y : Int) (x : Int)).toNat = z := by
  unfold movN
  rw [orF_bit]
  constructor
  · rintro ⟨y, hy, h⟩; exact ⟨y, (mem_bits ha y).1 hy, h⟩
  · rintro ⟨y, hy, h⟩; exact ⟨y, (mem_bits ha y).2 hy, h⟩
/-- The sum of two sets: b's elements, each with the set a moved by it. -/
def sumN (l : List Int) (a b : Nat) : Nat := orG (fun x => movN l a x) (bitsN b)
theorem sumN_lt {l : List Int} (hg : grpB l = true) (a b : Nat) : sumN l a b < 2 ^ (prodI l).toNat := orG_lt _ _ _ (fun x _ => movN_lt hg a x)
theorem sumN_bit (l : List Int) {a b : Nat} (ha : a < 2 ^ 24) (hb : b < 2 ^ 24) (z : Nat) : (sumN l a b).testBit z = true ↔ ∃ x y, b.testBit x = true ∧ a.testBit y = true ∧ (addN l (y : Int) (x : Int)).toNat = z := by
  unfold sumN
  rw [orG_bit]
  constructor
  · rintro ⟨x, hx, h⟩
    obtain ⟨y, hy, e⟩ := (movN_bit l ha x z).1 h
    exact ⟨x, y, (mem_bits hb x).1 hx, hy, e⟩
  · rintro ⟨x, y, hx, hy, e⟩
    exact ⟨x, (mem_bits hb x).2 hx, (movN_bit l ha x z).2 ⟨y, hy, e⟩⟩
theorem sumN_comm (l : List Int) {a b : Nat} (ha : a < 2 ^ 24) (hb : b < 2 ^ 24) : sumN l a b = sumN l b a :=
  bits_same fun z => by
    rw [sumN_bit l ha hb, sumN_bit l hb ha]
    constructor
    · rintro ⟨x, y, hx, hy, e⟩; exact ⟨y, x, hy, hx, by rw [addN_comm]; exact e⟩
    · rintro ⟨x, y, hx, hy, e⟩; exact ⟨y, x, hy, hx, by rw [addN_comm]; exact e⟩
theorem isS_of {l : List Int} (hg : grpB l = true) {a : Nat} (h : a < 2 ^ (prodI l).toNat) : isS l (a : Int) = true := by
  simp only [isS, hg, fullN_nat, Bool.true_and, Bool.and_eq_true, decide_eq_true_eq]
  generalize 2 ^ (prodI l).toNat = N at *
  omega
theorem isS_neg {l : List Int} {a : Int} (h : a < 0) : isS l a = false := by
  simp [isS]; intro; omega
/-- Whether both are sets of the group. -/
def two (l : List Int) (a b : Int) : Bool := isS l a && isS l b
def sumE (l : List Int) (a b : Int) : Int := if two l a b = true then (sumN l a.toNat b.toNat : Nat) else -1
/-- The negative of a set. -/
def ngN (l : List Int) (a : Nat) : Nat := orF (fun y => negN l (y : Int)) (bitsN a)
theorem ngN_lt {l : List Int} (hg : grpB l = true) (a : Nat) : ngN l a < 2 ^ (prodI l).toNat := by
  have ho := ords_grp hg
  exact orF_lt _ _ _ (fun y _ => by have := negN_in ho (y : Int); have := ho.prod; show (negN l (y : Int)).toNat < _; omega)
def difE (l : List Int) (a b : Int) : Int := if two l a b = true then (sumN l a.toNat (ngN l b.toNat) : Nat) else -1
/-- The sum of a set with itself, k times. -/
def powS (l : List Int) (a : Nat) : Nat → Nat
  | 0 => 1
  | k + 1 => sumN l (powS l a k) a
theorem powS_lt {l : List Int} (hg : grpB l = true) (a : Nat) : ∀ k, powS l a k < 2 ^ (prodI l).toNat
  | 0 => by
    have := (ords_grp hg).prod
    show 1 < _
    exact Nat.lt_of_lt_of_le (by decide : 1 < 2 ^ 1) (Nat.pow_le_pow_right (by decide) (by omega))
  | k + 1 => sumN_lt hg _ _
def mltE (l : List Int) (a n : Int) : Int := if isS l a = true then (if 0 ≤ n ∧ n ≤ 30 then (powS l a.toNat n.toNat : Nat) else -1) else -1
/-- A set without an element. -/
def woN (b x : Nat) : Nat := b ^^^ (b &&& 2 ^ x)
theorem woN_bit (b x i : Nat) : (woN b x).testBit i = (b.testBit i && decide (i ≠ x)) := by
  unfold woN
  rw [Nat.testBit_xor, Nat.testBit_and, Nat.testBit_two_pow]
  by_cases h : x = i
  · subst h; simp
  · have h2 : i ≠ x := fun e => h e.symm
    simp [h, h2]
theorem woN_le (b x : Nat) {n : Nat} (h : b < 2 ^ n) : woN b x < 2 ^ n := by
  apply Nat.lt_pow_two_of_testBit
  intro i hi
  rw [woN_bit, bit_no h i hi, Bool.false_and]
theorem bits_wo (b x : Nat) : bitsN (woN b x) = (bitsN b).filter (fun y => decide (y ≠ x)) := by
  unfold bitsN upK
  rw [List.filter_filter]
  apply List.filter_congr
  intro i _
  rw [woN_bit, Bool.and_comm]
/-- The sums of different elements. -/
def rstN (l : List Int) (a b : Nat) : Nat := orG (fun x => movN l (woN b x) x) (bitsN a)
theorem rstN_lt {l : List Int} (hg : grpB l = true) (a b : Nat) : rstN l a b < 2 ^ (prodI l).toNat := orG_lt _ _ _ (fun x _ => movN_lt hg _ x)
def rstE (l : List Int) (a b : Int) : Int := if two l a b = true then (rstN l a.toNat b.toNat : Nat) else -1
/-- The sums of parts of a list of elements. -/
def subK (l : List Int) (L : List Nat) : Nat := L.foldl (fun s x => s ||| movN l s x) 1
theorem subK_snoc (l : List Int) (L : List Nat) (x : Nat) : subK l (L ++ [x]) = subK l L ||| movN l (subK l L) x := by simp [subK]
theorem subK_lt {l : List Int} (hg : grpB l = true) (L : List Nat) : subK l L < 2 ^ (prodI l).toNat := by
  unfold subK
  have : ∀ (L : List Nat) (s : Nat), s < 2 ^ (prodI l).toNat → L.foldl (fun s x => s ||| movN l s x) s < 2 ^ (prodI l).toNat := by
    intro L
    induction L with
    | nil => intro s h; exact h
    | cons x t ih => intro s h; exact ih _ (Nat.or_lt_two_pow h (movN_lt hg _ _))
  exact this L 1 (powS_lt hg 0 0)
def subE (l : List Int) (a : Int) : Int := if isS l a = true then (subK l (bitsN a.toNat) : Nat) else -1
/-- How many of a list's elements add up to z with u. -/
def hitN (l : List Int) (M : List Nat) (u z : Nat) : Nat := M.countP (fun (v : Nat) => (addN l (u : Int) ((v : Nat) : Int)).toNat == z)
/-- How many pairs of an element of L and one of M add up to z. -/
def parN (l : List Int) (L M : List Nat) (z : Nat) : Nat := (L.map fun u => hitN l M u z).sum
theorem parN_snoc (l : List Int) (L M : List Nat) (x z : Nat) : parN l (L ++ [x]) M z = parN l L M z + hitN l M x z := by simp [parN]
theorem hitN_snoc (l : List Int) (M : List Nat) (u v z : Nat) : hitN l (M ++ [v]) u z = hitN l M u z + (if (addN l (u : Int) (v : Int)).toNat = z then 1 else 0) := by
  unfold hitN
  rw [List.countP_append, List.countP_singleton]
  simp
theorem hitN_le (l : List Int) (M : List Nat) (u z : Nat) : hitN l M u z ≤ M.length := List.countP_le_length
theorem parN_le (l : List Int) (M : List Nat) (z : Nat) : ∀ L : List Nat, parN l L M z ≤ L.length * M.length
  | [] => by simp [parN]
  | u :: t => by
    have := parN_le l M z t
    have h := hitN_le l M u z
    simp only [parN, List.map_cons, List.sum_cons, List.length_cons, Nat.add_mul, Nat.one_mul] at *
    omega
/-- A list without doubles in which at most one element fits: how many fit. -/
theorem countP_one (p : Nat → Bool) : ∀ (L : List Nat), L.Nodup → (∀ x ∈ L, ∀ y ∈ L, p x = true → p y = true → x = y) → L.countP p = if (∃ x ∈ L, p x = true) then 1 else 0
  | [], _, _ => by simp
  | x :: t, hn, hu => by
    rw [List.nodup_cons] at hn
    have ih := countP_one p t hn.2 (fun a ha b hb => hu a (by simp [ha]) b (by simp [hb]))
    rw [List.countP_cons, ih]
    by_cases hx : p x = true
    · have : ¬ ∃ y ∈ t, p y = true := fun ⟨y, hy, h⟩ => hn.1 (by rw [hu x (by simp) y (by simp [hy]) hx h]; exact hy)
      rw [if_neg this, if_pos hx, if_pos ⟨x, by simp, hx⟩]
    · rw [if_neg hx]
      by_cases h : ∃ y ∈ t, p y = true
      · obtain ⟨y, hy, h2⟩ := h
        rw [if_pos ⟨y, hy, h2⟩, if_pos ⟨y, by simp [hy], h2⟩]
      · rw [if_neg h, if_neg]
        rintro ⟨y, hy, h2⟩
        rcases List.mem_cons.1 hy with rfl | hy
        · exact hx h2
        · exact h ⟨y, hy, h2⟩
/-- An element is told from its sum with u. -/
theorem add_inj {l : List Int} (ho : Ords l) {u x y : Int} (hx0 : 0 ≤ x) (hx : x < prodI l) (hy0 : 0 ≤ y) (hy : y < prodI l) (h : addN l x u = addN l y u) : x = y := by
  rw [← add_neg_back ho u hx0 hx, h, add_neg_back ho u hy0 hy]
theorem grp_elt {l : List Int} (hg : grpB l = true) {a : Nat} (h : a < 2 ^ (prodI l).toNat) {x : Nat} (hx : x ∈ bitsN a) : (x : Int) < prodI l := by
  have h2 : x < (prodI l).toNat := by
    rcases Nat.lt_or_ge x (prodI l).toNat with h1 | h1
    · exact h1
    · have := (upK_mem hx).2; rw [bit_no h x h1] at this; cases this
  have := (ords_grp hg).prod
  omega
theorem hit_iff {l : List Int} (hg : grpB l = true) {b : Nat} (hb : b < 2 ^ (prodI l).toNat) (u z : Nat) : hitN l (bitsN b) u z = if (movN l b u).testBit z = true then 1 else 0 := by
  have ho := ords_grp hg
  unfold hitN
  rw [countP_one _ _ (bits_nodup b) (fun x hx y hy h1 h2 => by
    simp only [beq_iff_eq] at h1 h2
    have a1 := addN_in ho (u : Int) (x : Int)
    have a2 := addN_in ho (u : Int) (y : Int)
    have e : addN l (x : Int) (u : Int) = addN l (y : Int) (u : Int) := by
      rw [addN_comm l x u, addN_comm l y u]; omega
    have := add_inj ho (by omega) (grp_elt hg hb hx) (by omega) (grp_elt hg hb hy) e
    omega)]
  have e : (∃ x ∈ bitsN b, ((addN l (u : Int) (x : Int)).toNat == z) = true) ↔ (movN l b u).testBit z = true := by
    rw [movN_bit l (grp_pow hg hb)]
    constructor
    · rintro ⟨x, hx, h⟩
      exact ⟨x, (mem_bits (grp_pow hg hb) x).1 hx, by rw [addN_comm]; simpa using h⟩
    · rintro ⟨x, hx, h⟩
      exact ⟨x, (mem_bits (grp_pow hg hb) x).2 hx, by rw [addN_comm] at h; simpa using h⟩
  by_cases h : (movN l b u).testBit z = true
  · rw [if_pos (e.2 h), if_pos h]
  · rw [if_neg (fun h2 => h (e.1 h2)), if_neg h]
/-- The elements of a in a pair with the sum z: those u with z - u in b. -/
theorem count_par {l : List Int} (hg : grpB l = true) {a b : Nat} (ha : a < 2 ^ (prodI l).toNat) (hb : b < 2 ^ (prodI l).toNat) {z : Nat} (hz : (z : Int) < prodI l) :
    parN l (bitsN a) (bitsN b) z = (bitsN (a &&& movN l (ngN l b) z)).length := by
  have ho := ords_grp hg
  have hb24 := grp_pow hg hb
  have hn24 := grp_pow hg (ngN_lt hg b)
  have h1 : ∀ L : List Nat, parN l L (bitsN b) z = (L.filter (fun u => (movN l b u).testBit z)).length := by
    intro L
    induction L with
    | nil => simp [parN]
    | cons u t ih =>
      have : parN l (u :: t) (bitsN b) z = hitN l (bitsN b) u z + parN l t (bitsN b) z := by simp [parN]
      rw [this, ih, hit_iff hg hb, List.filter_cons]
      by_cases h : (movN l b u).testBit z = true
      · rw [if_pos h, if_pos h, List.length_cons]; omega
      · rw [if_neg h, if_neg h]; omega
  rw [h1]
  congr 1
  unfold bitsN upK
  rw [List.filter_filter]
  apply List.filter_congr
  intro u hu
  rw [Nat.testBit_and]
  cases hau : a.testBit u with
  | false => simp
  | true =>
    simp only [Bool.true_and, Bool.and_true]
    apply Bool.eq_iff_iff.2
    have hup : (u : Int) < prodI l := grp_elt hg ha ((mem_bits (grp_pow hg ha) u).2 hau)
    rw [movN_bit l hb24, movN_bit l hn24]
    constructor
    · rintro ⟨y, hy, e⟩
      have hyp : (y : Int) < prodI l := grp_elt hg hb ((mem_bits hb24 y).2 hy)
      have n1 := negN_in ho (y : Int)
      refine ⟨(negN l (y : Int)).toNat, ?_, ?_⟩
      · unfold ngN; rw [orF_bit]; exact ⟨y, (mem_bits hb24 y).2 hy, rfl⟩
      · rw [Int.toNat_of_nonneg n1.1]
        have a1 := addN_in ho (y : Int) (u : Int)
        have e2 : (z : Int) = addN l (u : Int) (y : Int) := by rw [addN_comm]; omega
        rw [e2, addN_comm, add_neg_back ho (y : Int) (by omega) hup]; omega
    · rintro ⟨y, hy, e⟩
      unfold ngN at hy
      rw [orF_bit] at hy
      obtain ⟨v, hv, rfl⟩ := hy
      have hvp : (v : Int) < prodI l := grp_elt hg hb hv
      have n1 := negN_in ho (v : Int)
      rw [Int.toNat_of_nonneg n1.1] at e
      refine ⟨v, (mem_bits hb24 v).1 hv, ?_⟩
      have a1 := addN_in ho (negN l (v : Int)) (z : Int)
      have e2 : (u : Int) = addN l (z : Int) (negN l (v : Int)) := by rw [addN_comm]; omega
      rw [e2, addN_comm, addN_assoc ho, addN_comm l (negN l (v : Int)) (v : Int), addN_neg ho, addN_zero ho (by omega) hz]; omega
/-- The table of all sums' counts. -/
def tabF (F : Nat → Nat) (n : Nat) : List Int := (List.range n).map fun z => ((F z : Nat) : Int)
theorem tabF_len (F : Nat → Nat) (n : Nat) : (tabF F n).length = n := by simp [tabF]
theorem tabF_at (F : Nat → Nat) (n k : Nat) (h : k < n) : (tabF F n).getD k 0 = (F k : Nat) := by simp [tabF, List.getD, h]
theorem tabF_congr {F G : Nat → Nat} {n : Nat} (h : ∀ z, z < n → F z = G z) : tabF F n = tabF G n := by
  unfold tabF
  apply List.map_congr_left
  intro z hz
  rw [h z (List.mem_range.1 hz)]
theorem tabF_zero (n : Nat) : tabF (fun _ => 0) n = List.replicate n 0 := by
  unfold tabF; rw [List.map_const']; simp
theorem tabF_set (F : Nat → Nat) (n k : Nat) (_ : k < n) : (tabF F n).set k ((F k + 1 : Nat) : Int) = tabF (fun z => F z + (if k = z then 1 else 0)) n := by
  apply List.ext_getElem?
  intro j
  unfold tabF
  rw [List.getElem?_set]
  by_cases hj : j < n
  · by_cases h : k = j
    · subst h; simp [hj]
    · simp [h, hj]
  · have : (List.range n)[j]? = none := by simp; omega
    by_cases h : k = j
    · subst h; simp [hj]
    · simp [h, this]
/-- The counts of all pairs of two sets. -/
def tabN (l : List Int) (a b : Nat) : List Int := tabF (parN l (bitsN a) (bitsN b)) (prodI l).toNat
def tabE (l : List Int) (a b : Int) : List Int := if two l a b = true then tabN l a.toNat b.toNat else []
def cntS (l : List Int) (a b x : Int) : Int := if two l a b = true ∧ 0 ≤ x ∧ x < prodI l then (parN l (bitsN a.toNat) (bitsN b.toNat) x.toNat : Nat) else -1
end Go.Proofs.YtfkleihnafeoeaaGreatDoor
