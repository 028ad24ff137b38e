/- Merged: SubMath SubSpec CosSpec ExtMath PerDef EnMath. -/
import Derived.Test.YtaacofbmbpkeoaaDoorSumMath
import Derived.Test.YtaacofbmbpkeoaaDoorSetMem
import Derived.Test.YtaacofbmbpkeoaaDoorGrpAx
import Derived.Test.YtaacofbmbpkeoaaDoorSumSpec
import Derived.Test.YtaacofbmbpkeoaaDoorLST
namespace Go.Proofs.YtaacofbmbpkeoaaDoor
/-- Every element of the first is one of the second. -/
def Part (s t : Nat) : Prop := ∀ k, s.testBit k = true → t.testBit k = true
theorem Part.same {s t : Nat} (h : Part s t) (g : Part t s) : s = t := bits_same fun i => ⟨h i, g i⟩
/-- s has 0, and a's elements do not lead out of it. -/
def Keeps (l : List Int) (a s : Nat) : Prop := s.testBit 0 = true ∧ ∀ x y : Nat, a.testBit x = true → s.testBit y = true → s.testBit (addN l (y : Int) (x : Int)).toNat = true
/-- s is what a generates. -/
structure IsClo (l : List Int) (a s : Nat) : Prop where
  lt : s < 2 ^ (prodI l).toNat
  keeps : Keeps l a s
  least : ∀ t, Keeps l a t → Part s t
theorem IsClo.one {l : List Int} {a s t : Nat} (h : IsClo l a s) (g : IsClo l a t) : s = t := (h.least t g.keeps).same (g.least s h.keeps)
/-- What stands while it is being made. -/
structure CloInv (l : List Int) (a s : Nat) : Prop where
  lt : s < 2 ^ (prodI l).toNat
  zero : s.testBit 0 = true
  least : ∀ t, Keeps l a t → Part s t
theorem cloInv_one {l : List Int} (hg : grpB l = true) (a : Nat) : CloInv l a 1 where
  lt := by
    have := (ords_grp hg).prod.1
    exact Nat.one_lt_two_pow (by omega)
  zero := rfl
  least := fun t h k hk => by
    cases k with
    | zero => exact h.1
    | succ k => rw [Nat.testBit_succ] at hk; simp at hk
theorem cloInv_step {l : List Int} (hg : grpB l = true) {a s : Nat} (ha : a < 2 ^ 24) (h : CloInv l a s) : CloInv l a (s ||| sumN l s a) where
  lt := Nat.or_lt_two_pow h.lt (sumN_lt hg s a)
  zero := by rw [Nat.testBit_or, h.zero]; rfl
  least := fun t ht k hk => by
    rw [Nat.testBit_or] at hk
    rcases Bool.or_eq_true_iff.1 hk with h1 | h1
    · exact h.least t ht k h1
    · obtain ⟨x, y, hx, hy, hz⟩ := (sumN_bit l (grp_pow hg h.lt) ha k).1 h1
      rw [← hz]; exact ht.2 x y hx (h.least t ht y hy)
theorem cloInv_end {l : List Int} (hg : grpB l = true) {a s : Nat} (ha : a < 2 ^ 24) (h : CloInv l a s) (he : s ||| sumN l s a = s) : IsClo l a s where
  lt := h.lt
  keeps := ⟨h.zero, fun x y hx hy => by
    rw [← he, Nat.testBit_or]
    exact Bool.or_eq_true_iff.2 (.inr ((sumN_bit l (grp_pow hg h.lt) ha _).2 ⟨x, y, hx, hy, rfl⟩))⟩
  least := h.least
theorem or_grow {s v : Nat} (h : s ||| v ≠ s) : s < s ||| v := by
  have : s ≤ s ||| v := Nat.left_le_or
  omega
theorem clo_from {l : List Int} (hg : grpB l = true) {a : Nat} (ha : a < 2 ^ 24) : ∀ (k s : Nat), 2 ^ 24 - s ≤ k → CloInv l a s → ∃ c, IsClo l a c
  | 0, s, hk, h => absurd (grp_pow hg h.lt) (by omega)
  | k + 1, s, hk, h => by
    by_cases he : s ||| sumN l s a = s
    · exact ⟨s, cloInv_end hg ha h he⟩
    · have h1 := or_grow he
      have h2 := cloInv_step hg ha h
      exact clo_from hg ha k _ (by omega) h2
theorem clo_ex {l : List Int} (hg : grpB l = true) {a : Nat} (ha : a < 2 ^ 24) : ∃ c, IsClo l a c := clo_from hg ha (2 ^ 24) 1 (by omega) (cloInv_one hg a)
theorem el_of {l : List Int} (hg : grpB l = true) {s k : Nat} (hs : s < 2 ^ (prodI l).toNat) (h : s.testBit k = true) : (k : Int) < prodI l := by
  have hp := (ords_grp hg).prod.1
  by_cases hk : (prodI l).toNat ≤ k
  · rw [bit_no hs k hk] at h; cases h
  · omega
theorem nat_add {l : List Int} (h : Ords l) (x y : Int) : (((addN l x y).toNat : Nat) : Int) = addN l x y := Int.toNat_of_nonneg (addN_in h x y).1
theorem nat_neg {l : List Int} (h : Ords l) (x : Int) : (((negN l x).toNat : Nat) : Int) = negN l x := Int.toNat_of_nonneg (negN_in h x).1
theorem zero_add' {l : List Int} (hg : grpB l = true) {x : Nat} (hx : (x : Int) < prodI l) : (addN l ((0 : Nat) : Int) (x : Int)).toNat = x := by
  rw [addN_comm, show (((0 : Nat) : Nat) : Int) = 0 from rfl, addN_zero (ords_grp hg) (by omega) hx]; simp
/-- What a generates holds a. -/
theorem IsClo.holds {l : List Int} (hg : grpB l = true) {a c : Nat} (ha : a < 2 ^ (prodI l).toNat) (h : IsClo l a c) : Part a c := fun x hx => by
  have := h.keeps.2 x 0 hx h.keeps.1
  rwa [zero_add' hg (el_of hg ha hx)] at this
/-- A subgroup: with 0, and its own sums. -/
def IsSg (l : List Int) (s : Nat) : Prop := s < 2 ^ (prodI l).toNat ∧ Keeps l s s
theorem IsClo.self {l : List Int} (hg : grpB l = true) {a c : Nat} (ha : a < 2 ^ (prodI l).toNat) (h : IsClo l a c) : c = a ↔ IsSg l a :=
  ⟨fun e => by subst e; exact ⟨ha, h.keeps⟩, fun s => (h.least a s.2).same (h.holds hg ha)⟩
/-- What a generates is a subgroup. -/
theorem IsClo.sg {l : List Int} (hg : grpB l = true) {a c : Nat} (h : IsClo l a c) : IsSg l c := by
  refine ⟨h.lt, h.keeps.1, fun x y hx hy => ?_⟩
  -- the elements x of c that lead into c from everywhere in c
  have hO := ords_grp hg
  have key : ∀ (k : Nat), c.testBit k = true → ∀ y, c.testBit y = true → c.testBit (addN l (y : Int) (k : Int)).toNat = true := by
    let t := orF (fun x : Nat => (x : Int)) ((bitsN c).filter fun x => (bitsN c).all fun y => c.testBit (addN l (y : Int) (x : Int)).toNat)
    have c24 := grp_pow hg h.lt
    have ht : ∀ k, t.testBit k = true ↔ c.testBit k = true ∧ ∀ y, c.testBit y = true → c.testBit (addN l (y : Int) (k : Int)).toNat = true := fun k => by
      show (orF _ _).testBit k = true ↔ _
      rw [orF_bit]
      constructor
      · rintro ⟨x, hx, e⟩
        rw [Int.toNat_natCast] at e
        subst e
        rw [List.mem_filter] at hx
        refine ⟨(mem_bits c24 _).1 hx.1, fun y hy => ?_⟩
        have := List.all_eq_true.1 hx.2 y ((mem_bits c24 y).2 hy)
        simpa using this
      · rintro ⟨h1, h2⟩
        refine ⟨k, List.mem_filter.2 ⟨(mem_bits c24 k).2 h1, List.all_eq_true.2 fun y hy => h2 y ((mem_bits c24 y).1 hy)⟩, by simp⟩
    have hk : Keeps l a t := by
      refine ⟨(ht 0).2 ⟨h.keeps.1, fun y hy => ?_⟩, fun x y hx hy => (ht _).2 ⟨h.keeps.2 x y hx ((ht y).1 hy).1, fun z hz => ?_⟩⟩
      · rw [show (((0 : Nat) : Nat) : Int) = 0 from rfl, addN_zero hO (by omega) (el_of hg h.lt hy)]; simpa using hy
      · rw [nat_add hO, ← addN_assoc hO, ← nat_add hO (z : Int) (y : Int)]
        exact h.keeps.2 x _ hx (((ht y).1 hy).2 z hz)
    exact fun k hk' => ((ht k).1 (h.least t hk k hk')).2
  exact key x hx y hy
end Go.Proofs.YtaacofbmbpkeoaaDoor

namespace Go.Proofs.YtaacofbmbpkeoaaDoor
open Go.RowKit
set_option maxRecDepth 1000000
theorem sumN24 {l : List Int} (hg : grpB l = true) (s t : Nat) : sumN l s t < 2 ^ 24 := grp_pow hg (sumN_lt hg s t)
/-- What a set generates, as a number; -1 for no set. -/
def GenX (l : List Int) (a r : Int) : Prop := (isS l a = true → ∃ c : Nat, r = (c : Int) ∧ IsClo l a.toNat c) ∧ (isS l a = false → r = -1)
theorem genX_ex (l : List Int) (a : Int) : ∃ r, GenX l a r := by
  cases h : isS l a with
  | false => exact ⟨-1, (fun h' => by rw [h] at h'; cases h'), fun _ => rfl⟩
  | true =>
    obtain ⟨hg, s, rfl, _, h24⟩ := isS_true h
    obtain ⟨c, hc⟩ := clo_ex hg h24
    exact ⟨c, fun _ => ⟨c, rfl, by simpa using hc⟩, (fun h' => by rw [h] at h'; cases h')⟩
theorem genX_one {l : List Int} {a r s : Int} (h : GenX l a r) (g : GenX l a s) : r = s := by
  cases hs : isS l a with
  | false => rw [h.2 hs, g.2 hs]
  | true =>
    obtain ⟨c, rfl, hc⟩ := h.1 hs
    obtain ⟨d, rfl, hd⟩ := g.1 hs
    rw [hc.one hd]
/-- Whether a number is a subgroup. -/
def sgB (l : List Int) (a : Int) : Bool := isS l a && (a.toNat.testBit 0 && (bitsN a.toNat).all fun x => (bitsN a.toNat).all fun y => a.toNat.testBit (addN l (y : Int) (x : Int)).toNat)
theorem sgB_no {l : List Int} {a : Int} (h : isS l a = false) : sgB l a = false := by unfold sgB; rw [h]; rfl
theorem sgB_iff {l : List Int} {a : Nat} (hs : isS l (a : Int) = true) : sgB l (a : Int) = true ↔ IsSg l a := by
  obtain ⟨hg, s, e, h1, h24⟩ := isS_true hs
  have e' : a = s := by omega
  subst e'
  unfold sgB IsSg Keeps
  rw [hs, Bool.true_and, Int.toNat_natCast, Bool.and_eq_true, List.all_eq_true]
  constructor
  · rintro ⟨h0, hall⟩
    exact ⟨h1, h0, fun x y hx hy => List.all_eq_true.1 (hall x ((mem_bits h24 x).2 hx)) y ((mem_bits h24 y).2 hy)⟩
  · rintro ⟨_, h0, hall⟩
    exact ⟨h0, fun x hx => List.all_eq_true.2 fun y hy => hall x y ((mem_bits h24 x).1 hx) ((mem_bits h24 y).1 hy)⟩
theorem sgB_clo {l : List Int} {a c : Nat} (hs : isS l (a : Int) = true) (hc : IsClo l a c) : sgB l (a : Int) = ((c : Int) == (a : Int)) := by
  obtain ⟨hg, s, e, h1, h24⟩ := isS_true hs
  have e' : a = s := by omega
  subst e'
  have h := (hc.self hg h1).trans (sgB_iff hs).symm
  cases hb : sgB l (a : Int) with
  | true => rw [h.2 hb]; simp
  | false =>
    have : c ≠ a := fun e => by rw [h.1 e] at hb; cases hb
    symm
    simp
    omega
/-- The least element of a set that is not empty. -/
def lowN (a : Nat) : Nat := ((List.range 24).find? fun i => a.testBit i).getD 0
theorem low_is {a : Nat} (h : a < 2 ^ 24) (h0 : a ≠ 0) : lowN a < 24 ∧ a.testBit (lowN a) = true ∧ ∀ i, i < lowN a → a.testBit i = false := by
  unfold lowN
  cases hf : (List.range 24).find? fun i => a.testBit i with
  | none =>
    exfalso
    rw [List.find?_eq_none] at hf
    refine h0 (Nat.eq_of_testBit_eq fun i => ?_)
    rw [Nat.zero_testBit]
    by_cases hi : i < 24
    · simpa using hf i (List.mem_range.2 hi)
    · exact bit_no h i (by omega)
  | some k =>
    rw [List.find?_range_eq_some] at hf
    refine ⟨List.mem_range.1 hf.2.1, hf.1, fun i hi => ?_⟩
    simpa using hf.2.2 i hi
/-- Whether a number is a coset. -/
def cosB (l : List Int) (s : Int) : Bool := isS l s && (decide (0 < s) && sgB l (movN l s.toNat (negN l (lowN s.toNat : Nat)).toNat : Nat))
theorem neg_nat {l : List Int} (hg : grpB l = true) (x : Int) : ∃ u : Nat, negN l x = (u : Int) ∧ (u : Int) ≤ 23 := by
  have h := negN_in (ords_grp hg) x
  have h2 := (ords_grp hg).prod.2
  exact ⟨(negN l x).toNat, by omega, by omega⟩
/-- The least coset that holds a set; -1 for no set or the empty one. -/
def HullX (l : List Int) (s r : Int) : Prop := (isS l s = true → s ≠ 0 → ∃ c : Nat, IsClo l (movN l s.toNat (negN l (lowN s.toNat : Nat)).toNat) c ∧ r = (movN l c (lowN s.toNat) : Nat)) ∧ ((isS l s = false ∨ s = 0) → r = -1)
theorem hullX_ex (l : List Int) (s : Int) : ∃ r, HullX l s r := by
  by_cases h : isS l s = true ∧ s ≠ 0
  · obtain ⟨hg, t, rfl, _, h24⟩ := isS_true h.1
    obtain ⟨c, hc⟩ := clo_ex hg (movN_lt24 hg ((t : Int)).toNat (negN l (lowN ((t : Int)).toNat : Nat)).toNat)
    exact ⟨(movN l c (lowN ((t : Int)).toNat) : Nat), fun _ _ => ⟨c, hc, rfl⟩, fun h' => by rcases h' with h' | h' <;> simp_all⟩
  · exact ⟨-1, fun h1 h2 => absurd ⟨h1, h2⟩ h, fun _ => rfl⟩
end Go.Proofs.YtaacofbmbpkeoaaDoor

namespace Go.Proofs.YtaacofbmbpkeoaaDoor
open Go.RowKit
set_option maxRecDepth 1000000
/-- The least elements of the cosets below k. -/
def repsK (l : List Int) (h : Nat) : Nat → List Nat
  | 0 => []
  | k + 1 => if (orG (fun y => movN l h y) (repsK l h k)).testBit k = true then repsK l h k else repsK l h k ++ [k]
/-- What their cosets hold. -/
def seenK (l : List Int) (h k : Nat) : Nat := orG (fun y => movN l h y) (repsK l h k)
theorem reps_yes {l : List Int} {h k : Nat} (b : (seenK l h k).testBit k = true) : repsK l h (k + 1) = repsK l h k := if_pos b
theorem reps_no {l : List Int} {h k : Nat} (b : (seenK l h k).testBit k = false) : repsK l h (k + 1) = repsK l h k ++ [k] := if_neg (by rw [show orG (fun y => movN l h y) (repsK l h k) = seenK l h k from rfl, b]; simp)
theorem seen_yes {l : List Int} {h k : Nat} (b : (seenK l h k).testBit k = true) : seenK l h (k + 1) = seenK l h k := by unfold seenK; rw [reps_yes b]
theorem seen_no {l : List Int} {h k : Nat} (b : (seenK l h k).testBit k = false) : seenK l h (k + 1) = seenK l h k ||| movN l h k := by unfold seenK; rw [reps_no b, orG_snoc]
theorem reps_len (l : List Int) (h : Nat) : ∀ k, (repsK l h k).length ≤ k
  | 0 => Nat.le_refl _
  | k + 1 => by
    have := reps_len l h k
    unfold repsK
    split
    · omega
    · simp; omega
theorem reps_lt (l : List Int) (h : Nat) : ∀ k, ∀ x ∈ repsK l h k, x < k
  | 0, x, hx => by cases hx
  | k + 1, x, hx => by
    have ih := reps_lt l h k
    unfold repsK at hx
    split at hx
    · exact Nat.lt_succ_of_lt (ih x hx)
    · rcases List.mem_append.1 hx with h1 | h1
      · exact Nat.lt_succ_of_lt (ih x h1)
      · simp at h1; omega
theorem seen_lt {l : List Int} (hg : grpB l = true) (h k : Nat) : seenK l h k < 2 ^ 24 := grp_pow hg (orG_lt _ _ _ (fun x _ => movN_lt hg h x))
/-- The cosets of a subgroup, by their least elements. -/
def cosL (l : List Int) (h : Nat) (R : List Nat) : List Int := R.map fun y => ((movN l h y : Nat) : Int)
theorem cosL_len (l : List Int) (h : Nat) (R : List Nat) : (cosL l h R).length = R.length := by simp [cosL]
theorem cosL_snoc (l : List Int) (h : Nat) (R : List Nat) (k : Nat) : cosL l h (R ++ [k]) = cosL l h R ++ [((movN l h k : Nat) : Int)] := by simp [cosL]
def cosE (l : List Int) (s : Int) : List Int := if sgB l s = true then cosL l s.toNat (repsK l s.toNat (prodI l).toNat) else []
theorem sgB_set {l : List Int} {s : Int} (h : sgB l s = true) : isS l s = true := by
  unfold sgB at h
  exact (Bool.and_eq_true_iff.1 h).1
/-- The number of an element's coset. -/
def numE (l : List Int) (s x : Int) : Int := if sgB l s = true ∧ isE l x = true then (match (repsK l s.toNat (prodI l).toNat).findIdx? (fun y => (movN l s.toNat y).testBit x.toNat) with | some i => ((i : Nat) : Int) | none => -1) else -1
theorem idx_yes {R : List Nat} {p : Nat → Bool} {k : Nat} (hk : k < R.length) (hp : p (R.getD k 0) = true) (hn : ∀ j, j < k → p (R.getD j 0) = false) : R.findIdx? p = some k := by
  rw [List.findIdx?_eq_some_iff_getElem]
  refine ⟨hk, by simpa [List.getD, hk] using hp, fun j hj => ?_⟩
  have h := hn j hj
  have hj2 : j < R.length := by omega
  simpa [List.getD, hj2] using h
theorem idx_no {R : List Nat} {p : Nat → Bool} (hn : ∀ j, j < R.length → p (R.getD j 0) = false) : R.findIdx? p = none := by
  rw [List.findIdx?_eq_none_iff]
  intro x hx
  obtain ⟨j, hj, rfl⟩ := List.getElem_of_mem hx
  have h := hn j hj
  simpa [List.getD, hj] using h
theorem cosL_at {l : List Int} {h : Nat} {R : List Nat} {k : Nat} (hk : k < R.length) : (cosL l h R).getD k 0 = ((movN l h (R.getD k 0) : Nat) : Int) := by
  simp [cosL, List.getD, hk]
end Go.Proofs.YtaacofbmbpkeoaaDoor

namespace Go.Proofs.YtaacofbmbpkeoaaDoor
theorem movN_zero {l : List Int} (hg : grpB l = true) {s : Nat} (hs : s < 2 ^ (prodI l).toNat) : movN l s 0 = s :=
  bits_same fun z => by
    rw [movN_bit l (grp_pow hg hs)]
    constructor
    · rintro ⟨y, hy, e⟩
      rw [show (((0 : Nat) : Nat) : Int) = 0 from rfl, addN_zero (ords_grp hg) (by omega) (el_of hg hs hy)] at e
      have : y = z := by simpa using e
      rw [← this]; exact hy
    · intro hz
      exact ⟨z, hz, by rw [show (((0 : Nat) : Nat) : Int) = 0 from rfl, addN_zero (ords_grp hg) (by omega) (el_of hg hs hz)]; simp⟩
theorem movN_two {l : List Int} (hg : grpB l = true) {s : Nat} (hs : s < 2 ^ 24) (u x : Nat) : movN l (movN l s u) x = movN l s (addN l (u : Int) (x : Int)).toNat :=
  bits_same fun z => by
    have hO := ords_grp hg
    rw [movN_bit l (movN_lt24 hg s u), movN_bit l hs]
    constructor
    · rintro ⟨y, hy, e⟩
      obtain ⟨y0, h0, e0⟩ := (movN_bit l hs u y).1 hy
      refine ⟨y0, h0, ?_⟩
      rw [nat_add hO, ← addN_assoc hO, ← nat_add hO (y0 : Int) (u : Int), e0, e]
    · rintro ⟨y0, h0, e⟩
      refine ⟨(addN l (y0 : Int) (u : Int)).toNat, (movN_bit l hs u _).2 ⟨y0, h0, rfl⟩, ?_⟩
      rw [nat_add hO, addN_assoc hO, ← nat_add hO (u : Int) (x : Int), e]
theorem shift_inj {l : List Int} (hg : grpB l = true) {s t : Nat} (hs : s < 2 ^ (prodI l).toNat) (ht : t < 2 ^ (prodI l).toNat) {k : Nat} (h : movN l s k = movN l t k) : s = t := by
  obtain ⟨u, hu, _⟩ := neg_nat hg (k : Int)
  have hO := ords_grp hg
  have e : ∀ {r : Nat}, r < 2 ^ (prodI l).toNat → movN l (movN l r k) u = r := fun {r} hr => by
    rw [movN_two hg (grp_pow hg hr), ← hu, addN_neg hO]
    exact movN_zero hg hr
  rw [← e hs, ← e ht, h]
/-- The multiple of an element. -/
def multN (l : List Int) (x k : Nat) : Nat := (mulN l (x : Int) (k : Int)).toNat
theorem multN_nat {l : List Int} (hg : grpB l = true) (x k : Nat) : ((multN l x k : Nat) : Int) = mulN l (x : Int) (k : Int) := Int.toNat_of_nonneg (mulN_bnd (ords_grp hg) _ _).1
theorem multN_zero (l : List Int) (x : Nat) : multN l x 0 = 0 := by unfold multN; rw [show (((0 : Nat) : Nat) : Int) = 0 from rfl, _root_.Go.Proofs.YtaacofbmbpkeoaaDoor.mulN_zero]; rfl
theorem multN_succ {l : List Int} (hg : grpB l = true) (x k : Nat) : (addN l (multN l x k : Nat) (x : Int)).toNat = multN l x (k + 1) := by
  rw [multN_nat hg, mulN_succ (ords_grp hg)]
  unfold multN
  rw [Int.natCast_add]; rfl
theorem multN_step {l : List Int} (hg : grpB l = true) (x k : Nat) (y : Int) : addN l (addN l y (multN l x k : Nat)) (x : Int) = addN l y (multN l x (k + 1) : Nat) := by
  have hO := ords_grp hg
  rw [addN_assoc hO, ← multN_succ hg, nat_add hO]
/-- The shift by the multiple. -/
def cosK (l : List Int) (s x k : Nat) : Nat := movN l s (multN l x k)
theorem cosK_zero {l : List Int} (hg : grpB l = true) {s : Nat} (hs : s < 2 ^ (prodI l).toNat) (x : Nat) : cosK l s x 0 = s := by unfold cosK; rw [multN_zero, movN_zero hg hs]
theorem cosK_succ {l : List Int} (hg : grpB l = true) {s : Nat} (hs : s < 2 ^ 24) (x k : Nat) : movN l (cosK l s x k) x = cosK l s x (k + 1) := by
  unfold cosK; rw [movN_two hg hs, multN_succ hg]
theorem cosK_lt {l : List Int} (hg : grpB l = true) (s x k : Nat) : cosK l s x k < 2 ^ (prodI l).toNat := movN_lt hg _ _
theorem multN_add {l : List Int} (hg : grpB l = true) (u a : Nat) : ∀ b : Nat, addN l (multN l u a : Nat) (multN l u b : Nat) = (multN l u (a + b) : Nat) := by
  have hO := ords_grp hg
  intro b
  induction b with
  | zero => rw [multN_zero, show (((0 : Nat) : Nat) : Int) = 0 from rfl, Nat.add_zero, multN_nat hg]; exact addN_zero hO (mulN_bnd hO _ _).1 (mulN_bnd hO _ _).2
  | succ b ih => rw [← multN_step hg, ih, ← nat_add hO, multN_succ hg]; rfl
theorem cosK_add {l : List Int} (hg : grpB l = true) {s : Nat} (hs : s < 2 ^ 24) (x a b : Nat) : movN l (cosK l s x a) (multN l x b) = cosK l s x (a + b) := by
  unfold cosK
  rw [movN_two hg hs, multN_add hg, Int.toNat_natCast]
theorem least_pos (p : Nat → Prop) (h : ∃ d, 0 < d ∧ p d) : ∃ d, 0 < d ∧ p d ∧ ∀ e, 0 < e → e < d → ¬ p e := by
  obtain ⟨d, h1, h2⟩ := h
  induction d using Nat.strongRecOn with
  | _ d ih =>
    by_cases hc : ∃ e, 0 < e ∧ e < d ∧ p e
    · obtain ⟨e, e1, e2, e3⟩ := hc
      exact ih e e2 e1 e3
    · exact ⟨d, h1, h2, fun e e1 e2 e3 => hc ⟨e, e1, e2, e3⟩⟩
theorem cosK_back {l : List Int} (hg : grpB l = true) {s : Nat} (hs : s < 2 ^ (prodI l).toNat) (x : Nat) : ∃ m, 1 ≤ m ∧ m ≤ 24 ∧ cosK l s x m = s := by
  obtain ⟨m, h1, h2, h3, _⟩ := isOrd_ex (ords_grp hg) (x : Int)
  refine ⟨m, h1, h2, ?_⟩
  unfold cosK
  rw [show multN l x m = 0 by unfold multN; rw [h3]; rfl, movN_zero hg hs]
/-- The first time that the shifts come back. -/
theorem cosK_first {l : List Int} (hg : grpB l = true) {s : Nat} (hs : s < 2 ^ (prodI l).toNat) (x : Nat) : ∃ m, 0 < m ∧ cosK l s x m = s ∧ ∀ e, 0 < e → e < m → cosK l s x e ≠ s := by
  obtain ⟨m, h1, _, h3⟩ := cosK_back hg hs x
  exact least_pos (fun d => cosK l s x d = s) ⟨m, h1, h3⟩
/-- Which of the shifts a set is. -/
def idxK (l : List Int) (s x m : Nat) (v : Int) : Nat := (List.range m).findIdx fun j => ((cosK l s x (j + 1) : Nat) : Int) == v
theorem idxK_at {l : List Int} (hg : grpB l = true) {s : Nat} (hs : s < 2 ^ (prodI l).toNat) {x m : Nat} (h3 : ∀ e, 0 < e → e < m → cosK l s x e ≠ s) {k : Nat} (k1 : 1 ≤ k) (km : k ≤ m) : idxK l s x m ((cosK l s x k : Nat) : Int) = k - 1 := by
  have hs24 := grp_pow hg hs
  unfold idxK
  have hlt : k - 1 < (List.range m).length := by rw [List.length_range]; omega
  rw [List.findIdx_eq hlt]
  refine ⟨?_, fun j hj => ?_⟩
  · rw [List.getElem_range, show k - 1 + 1 = k by omega]; simp
  · rw [List.getElem_range]
    simp only [beq_eq_false_iff_ne, ne_eq]
    intro e
    have e1 : cosK l s x (j + 1) = cosK l s x k := by omega
    have e2 : cosK l s x (k - (j + 1)) = s := by
      have h4 := cosK_add hg hs24 x (k - (j + 1)) (j + 1)
      rw [show k - (j + 1) + (j + 1) = k by omega, ← e1] at h4
      exact shift_inj hg (cosK_lt hg _ _ _) hs h4
    exact h3 _ (by omega) (by omega) e2
/-- The union of the first k. -/
def extK (l : List Int) (s x k : Nat) : Nat := orG (fun i => cosK l s x i) (List.range k)
theorem extK_one {l : List Int} (hg : grpB l = true) {s : Nat} (hs : s < 2 ^ (prodI l).toNat) (x : Nat) : extK l s x 1 = s := by
  unfold extK
  rw [show List.range 1 = [] ++ [0] from rfl, orG_snoc, orG_nil, cosK_zero hg hs, Nat.zero_or]
theorem extK_succ (l : List Int) (s x k : Nat) : extK l s x (k + 1) = extK l s x k ||| cosK l s x k := by
  unfold extK
  rw [List.range_succ, orG_snoc]
theorem extK_lt {l : List Int} (hg : grpB l = true) (s x k : Nat) : extK l s x k < 2 ^ (prodI l).toNat := orG_lt _ _ _ fun i _ => cosK_lt hg s x i
theorem extK_bit {l : List Int} {s : Nat} (hs : s < 2 ^ 24) (x k z : Nat) : (extK l s x k).testBit z = true ↔ ∃ i y, i < k ∧ s.testBit y = true ∧ (addN l (y : Int) (multN l x i : Nat)).toNat = z := by
  unfold extK
  rw [orG_bit]
  constructor
  · rintro ⟨i, hi, h⟩
    obtain ⟨y, hy, e⟩ := (movN_bit l hs _ z).1 h
    exact ⟨i, y, List.mem_range.1 hi, hy, e⟩
  · rintro ⟨i, y, hi, hy, e⟩
    exact ⟨i, List.mem_range.2 hi, (movN_bit l hs _ z).2 ⟨y, hy, e⟩⟩
/-- What generates with one element more. -/
theorem ext_clo {l : List Int} (hg : grpB l = true) {a s x k : Nat} (ha : a < 2 ^ (prodI l).toNat) (hc : IsClo l a s) (h1 : 1 ≤ k) (hk : cosK l s x k = s) : IsClo l (a ||| 2 ^ x) (extK l s x k) := by
  have hO := ords_grp hg
  have hs24 := grp_pow hg hc.lt
  have hsg := hc.sg hg
  have hpart := hc.holds hg ha
  refine ⟨extK_lt hg s x k, ⟨?_, ?_⟩, ?_⟩
  · exact (extK_bit hs24 x k 0).2 ⟨0, 0, h1, hc.keeps.1, by rw [multN_zero, show (((0 : Nat) : Nat) : Int) = 0 from rfl, addN_zero hO (by omega) (by have := hO.prod.1; omega)]; rfl⟩
  · intro u z hu hz
    obtain ⟨i, y, hi, hy, e⟩ := (extK_bit hs24 x k z).1 hz
    have ez : (z : Int) = addN l (y : Int) (multN l x i : Nat) := by rw [← e, nat_add hO]
    rw [ez]
    rw [Nat.testBit_or] at hu
    rcases Bool.or_eq_true_iff.1 hu with hu | hu
    · have h2 := hsg.2.2 u y (hpart u hu) hy
      refine (extK_bit hs24 x k _).2 ⟨i, _, hi, h2, ?_⟩
      rw [nat_add hO, addN_assoc hO, addN_comm l (u : Int), ← addN_assoc hO]
    · rw [Nat.testBit_two_pow, decide_eq_true_eq] at hu
      subst hu
      rw [multN_step hg]
      by_cases hlt : i + 1 < k
      · exact (extK_bit hs24 x k _).2 ⟨i + 1, y, hlt, hy, rfl⟩
      · obtain rfl : k = i + 1 := by omega
        have h3 : (cosK l s x (i + 1)).testBit (addN l (y : Int) (multN l x (i + 1) : Nat)).toNat = true := (movN_bit l hs24 _ _).2 ⟨y, hy, rfl⟩
        rw [hk] at h3
        refine (extK_bit hs24 x _ _).2 ⟨0, _, h1, h3, ?_⟩
        have h4 := addN_in hO (y : Int) (multN l x (i + 1) : Nat)
        rw [multN_zero, nat_add hO, show (((0 : Nat) : Nat) : Int) = 0 from rfl, addN_zero hO h4.1 h4.2]
  · intro t ht z hz
    obtain ⟨i, y, hi, hy, e⟩ := (extK_bit hs24 x k z).1 hz
    have hst : Part s t := hc.least t ⟨ht.1, fun u v hu hv => ht.2 u v (by rw [Nat.testBit_or, hu]; rfl) hv⟩
    have key : ∀ j, t.testBit (addN l (y : Int) (multN l x j : Nat)).toNat = true := by
      intro j
      induction j with
      | zero =>
        rw [multN_zero, show (((0 : Nat) : Nat) : Int) = 0 from rfl, addN_zero hO (by omega) (el_of hg hc.lt hy)]
        simpa using hst y hy
      | succ j ih =>
        have := ht.2 x _ (by rw [Nat.testBit_or, Nat.testBit_two_pow]; simp) ih
        rwa [nat_add hO, multN_step hg] at this
    rw [← e]; exact key i
/-- The set of a list's elements. -/
def prefN (L : List Nat) : Nat := orF (fun x : Nat => (x : Int)) L
theorem prefN_snoc (L : List Nat) (x : Nat) : prefN (L ++ [x]) = prefN L ||| 2 ^ x := by unfold prefN; rw [orF_snoc, Int.toNat_natCast]
theorem prefN_all {s : Nat} (hs : s < 2 ^ 24) : prefN (bitsN s) = s := bits_same fun i => by
  unfold prefN
  rw [orF_bit]
  constructor
  · rintro ⟨x, hx, e⟩
    rw [Int.toNat_natCast] at e
    rw [← e]; exact (mem_bits hs x).1 hx
  · intro h
    exact ⟨i, (mem_bits hs i).2 h, Int.toNat_natCast i⟩
theorem prefN_lt {L : List Nat} {k : Nat} (h : ∀ x ∈ L, x < k) : prefN L < 2 ^ k := orF_lt _ _ k fun x hx => by rw [Int.toNat_natCast]; exact h x hx
theorem clo_nil {l : List Int} (hg : grpB l = true) : IsClo l (prefN []) 1 where
  lt := (cloInv_one hg 0).lt
  keeps := ⟨rfl, fun x y hx _ => by rw [show prefN [] = 0 from rfl, Nat.zero_testBit] at hx; cases hx⟩
  least := (cloInv_one hg _).least
theorem shift_back {l : List Int} (hg : grpB l = true) {s : Nat} (hs : s < 2 ^ (prodI l).toNat) {k u : Nat} (hu : negN l (k : Int) = (u : Int)) : movN l (movN l s u) k = s := by
  have hO := ords_grp hg
  rw [movN_two hg (grp_pow hg hs), ← hu, addN_comm, addN_neg hO]
  exact movN_zero hg hs
/-- A set is a coset where its hull is it. -/
theorem cos_hull {l : List Int} {s k u c : Nat} (hs : isS l (s : Int) = true) (h0 : s ≠ 0) (hk : lowN s = k) (hu : negN l (k : Int) = (u : Int)) (hc : IsClo l (movN l s u) c) : cosB l (s : Int) = ((movN l c k : Nat) == s) := by
  obtain ⟨hg, s', e, h1, h24⟩ := isS_true hs
  have e' : s = s' := by omega
  subst e'
  have hv := movN_lt hg s u
  have h3 := sgB_clo (isS_of hg hv) hc
  unfold cosB
  rw [hs, Int.toNat_natCast, hk, hu, Int.toNat_natCast, h3]
  have hp : decide ((0 : Int) < (s : Int)) = true := by simp; omega
  rw [hp, Bool.true_and, Bool.true_and]
  have hb := shift_back hg h1 hu
  rw [Bool.eq_iff_iff]
  simp only [beq_iff_eq]
  constructor
  · intro e
    have : c = movN l s u := by omega
    rw [this]; exact hb
  · intro e
    have := shift_inj hg hc.lt hv (e.trans hb.symm)
    rw [this]
/-- The coset of an element is the one that holds it. -/
theorem coset_same {l : List Int} (hg : grpB l = true) {h x y : Nat} (hs : IsSg l h) (hy : (y : Int) < prodI l) (hb : (movN l h y).testBit x = true) : movN l h y = movN l h x := by
  have hO := ords_grp hg
  have h24 := grp_pow hg hs.1
  obtain ⟨u, hu, e⟩ := (movN_bit l h24 y x).1 hb
  have ex : (x : Int) = addN l (u : Int) (y : Int) := by rw [← e, nat_add hO]
  obtain ⟨v, hv, _⟩ := neg_nat hg (u : Int)
  -- the negative of an element of h lies in h
  have hneg : h.testBit v = true := by
    obtain ⟨m, m1, m2, m3, _⟩ := isOrd_ex hO (u : Int)
    have key : ∀ j, h.testBit (multN l u j) = true := by
      intro j
      induction j with
      | zero => rw [multN_zero]; exact hs.2.1
      | succ j ih => rw [← multN_succ hg]; exact hs.2.2 u _ hu ih
    have e1 : mulN l (u : Int) ((m - 1 : Nat) : Int) = negN l (u : Int) := by
      have h2 := mulN_succ hO (u : Int) ((m - 1 : Nat) : Int)
      rw [show (((m - 1 : Nat) : Int) + 1) = (m : Int) by omega, m3] at h2
      have hb1 := mulN_bnd hO (u : Int) ((m - 1 : Nat) : Int)
      have hb2 := negN_in hO (u : Int)
      have h3 : addN l (negN l (u : Int)) (u : Int) = 0 := by rw [addN_comm]; exact addN_neg hO _
      exact add_inj hO hb1.1 hb1.2 hb2.1 hb2.2 (h2.trans h3.symm)
    have := key (m - 1)
    unfold multN at this
    rw [e1, hv, Int.toNat_natCast] at this
    exact this
  refine bits_same fun z => ?_
  rw [movN_bit l h24, movN_bit l h24]
  constructor
  · rintro ⟨w, hw, ez⟩
    refine ⟨(addN l (w : Int) (v : Int)).toNat, hs.2.2 v w hneg hw, ?_⟩
    rw [nat_add hO, ex, addN_assoc hO, ← addN_assoc hO (v : Int), ← hv, addN_comm l (negN l (u : Int)), addN_neg hO, addN_comm l 0, addN_zero hO (by omega) hy, ez]
  · rintro ⟨w, hw, ez⟩
    refine ⟨(addN l (w : Int) (u : Int)).toNat, hs.2.2 u w hu hw, ?_⟩
    rw [nat_add hO, addN_assoc hO, ← ex, ez]
theorem coset_holds {l : List Int} (hg : grpB l = true) {h x : Nat} (hs : IsSg l h) (hx : (x : Int) < prodI l) : (movN l h x).testBit x = true :=
  (movN_bit l (grp_pow hg hs.1) x x).2 ⟨0, hs.2.1, zero_add' hg hx⟩
end Go.Proofs.YtaacofbmbpkeoaaDoor

namespace Go.Proofs.YtaacofbmbpkeoaaDoor
open Go.RowKit
/-- Those of the first k elements that shift s onto itself. -/
def stK (l : List Int) (s k : Nat) : Nat := orF (fun x : Nat => (x : Int)) ((List.range k).filter fun y => movN l s y == s)
theorem stK_zero (l : List Int) (s : Nat) : stK l s 0 = 0 := rfl
theorem stK_yes {l : List Int} {s k : Nat} (h : movN l s k = s) : stK l s (k + 1) = stK l s k ||| 2 ^ k := by
  unfold stK
  rw [List.range_succ, List.filter_append]
  have : [k].filter (fun y => movN l s y == s) = [k] := by simp [h]
  rw [this, orF_snoc, Int.toNat_natCast]
theorem stK_no {l : List Int} {s k : Nat} (h : movN l s k ≠ s) : stK l s (k + 1) = stK l s k := by
  unfold stK
  rw [List.range_succ, List.filter_append]
  have : [k].filter (fun y => movN l s y == s) = [] := by simp [h]
  rw [this, List.append_nil]
theorem stK_bit (l : List Int) (s k y : Nat) : (stK l s k).testBit y = true ↔ y < k ∧ movN l s y = s := by
  unfold stK
  rw [orF_bit]
  constructor
  · rintro ⟨x, hx, rfl⟩
    rw [List.mem_filter, List.mem_range, beq_iff_eq] at hx
    rw [Int.toNat_natCast]
    exact hx
  · rintro ⟨h1, h2⟩
    exact ⟨y, by rw [List.mem_filter, List.mem_range, beq_iff_eq]; exact ⟨h1, h2⟩, Int.toNat_natCast y⟩
theorem stK_lt (l : List Int) (s k : Nat) : stK l s k < 2 ^ k := by
  unfold stK
  refine orF_lt _ _ k fun x hx => ?_
  rw [List.mem_filter, List.mem_range] at hx
  rw [Int.toNat_natCast]
  exact hx.1
/-- The stabilizer. -/
def stN (l : List Int) (s : Nat) : Nat := stK l s (prodI l).toNat
/-- The union of the cosets, of those that R lists, that are parts of a. -/
def coreK (l : List Int) (h a : Nat) (R : List Nat) : Nat := orG (fun y => movN l h y) (R.filter fun y => a &&& movN l h y == movN l h y)
/-- How many elements of a are in each of the cosets that R lists. -/
def quoK (l : List Int) (h a : Nat) (R : List Nat) : List Nat := R.map fun y => (bitsN (movN l h y &&& a)).length
theorem stN_lt24 {l : List Int} (hg : grpB l = true) (s : Nat) : stN l s < 2 ^ 24 := grp_pow hg (stK_lt l s _)
theorem stK_lt24 (l : List Int) (s : Nat) {k : Nat} (hk : k ≤ 24) : stK l s k < 2 ^ 24 := Nat.lt_of_lt_of_le (stK_lt l s k) (Nat.pow_le_pow_right (by decide) hk)
theorem stN_bit0 {l : List Int} (hg : grpB l = true) {s : Nat} (hs : s < 2 ^ (prodI l).toNat) : (stN l s).testBit 0 = true := by
  have hP := (ords_grp hg).prod
  exact (stK_bit _ _ _ _).2 ⟨by omega, movN_zero hg hs⟩
theorem bit0_pos {t : Nat} (h : t.testBit 0 = true) : 1 ≤ t := by
  rcases Nat.eq_zero_or_pos t with h0 | h0
  · rw [h0] at h; simp at h
  · exact h0
theorem bit0_wo {t : Nat} (h : t.testBit 0 = true) : woN t 0 = t - 1 := by
  have h1 : t % 2 = 1 := by simpa using h
  apply Nat.eq_of_testBit_eq
  intro i
  rw [woN_bit]
  rcases Nat.eq_zero_or_pos i with h0 | h0
  · subst h0
    have h2 : (t - 1) % 2 = 0 := by omega
    simp [h2]
  · obtain ⟨j, rfl⟩ : ∃ j, i = j + 1 := ⟨i - 1, by omega⟩
    have h2 : (t - 1) / 2 = t / 2 := by omega
    rw [Nat.testBit_succ, Nat.testBit_succ, h2]
    simp
theorem take_at {R : List Nat} {k : Nat} (h : k < R.length) : R.take (k + 1) = R.take k ++ [R.getD k 0] := by
  rw [List.take_add_one, List.getElem?_eq_getElem h]
  simp [List.getD, List.getElem?_eq_getElem h]
theorem core_yes {l : List Int} {h a : Nat} {R : List Nat} {k : Nat} (hk : k < R.length) (hp : a &&& movN l h (R.getD k 0) = movN l h (R.getD k 0)) : coreK l h a (R.take (k + 1)) = coreK l h a (R.take k) ||| movN l h (R.getD k 0) := by
  rw [take_at hk]
  unfold coreK
  rw [List.filter_append]
  have : [R.getD k 0].filter (fun y => a &&& movN l h y == movN l h y) = [R.getD k 0] := by
    rw [List.filter_cons, if_pos (by rw [beq_iff_eq]; exact hp)]
    rfl
  rw [this, orG_snoc]
theorem core_no {l : List Int} {h a : Nat} {R : List Nat} {k : Nat} (hk : k < R.length) (hp : a &&& movN l h (R.getD k 0) ≠ movN l h (R.getD k 0)) : coreK l h a (R.take (k + 1)) = coreK l h a (R.take k) := by
  rw [take_at hk]
  unfold coreK
  rw [List.filter_append]
  have : [R.getD k 0].filter (fun y => a &&& movN l h y == movN l h y) = [] := by
    rw [List.filter_cons, if_neg (by rw [beq_iff_eq]; exact hp)]
    rfl
  rw [this, List.append_nil]
theorem core_lt24 {l : List Int} (hg : grpB l = true) (h a : Nat) (R : List Nat) : coreK l h a R < 2 ^ 24 := grp_pow hg (orG_lt _ _ _ (fun x _ => movN_lt hg h x))
theorem quo_len (l : List Int) (h a : Nat) (R : List Nat) : (quoK l h a R).length = R.length := by simp [quoK]
theorem quo_next {l : List Int} {h a : Nat} {R : List Nat} {k : Nat} (hk : k < R.length) : quoK l h a (R.take (k + 1)) = quoK l h a (R.take k) ++ [(bitsN (movN l h (R.getD k 0) &&& a)).length] := by
  rw [take_at hk]
  simp [quoK]
/-- The functions of chapter 6 on any numbers. -/
def stE (l : List Int) (s : Int) : Int := if isS l s = true then ((stN l s.toNat : Nat) : Int) else -1
def perB (l : List Int) (s : Int) : Bool := isS l s && decide (1 < stN l s.toNat)
def perE (l : List Int) (s : Int) : List Int := if isS l s = true then LI (stN l s.toNat - 1) else []
def fillE (l : List Int) (h s : Int) : Int := if sgB l h = true ∧ isS l s = true then ((sumN l s.toNat h.toNat : Nat) : Int) else -1
def coreE (l : List Int) (h s : Int) : Int := if sgB l h = true ∧ isS l s = true then ((coreK l h.toNat s.toNat (repsK l h.toNat (prodI l).toNat) : Nat) : Int) else -1
def quoB (l : List Int) (h s : Int) : Bool := sgB l h && isS l s
def quoE (l : List Int) (h s : Int) : List Int := if quoB l h s = true then (quoK l h.toNat s.toNat (repsK l h.toNat (prodI l).toNat)).map (fun (x : Nat) => (x : Int)) else []
end Go.Proofs.YtaacofbmbpkeoaaDoor

namespace Go.Proofs.YtaacofbmbpkeoaaDoor
/-- The sum of the first k values. -/
def accN (f : Nat → Int) : Nat → Int
  | 0 => 0
  | k + 1 => accN f k + f k
theorem accN_congr {f g : Nat → Int} : ∀ {n : Nat}, (∀ i, i < n → f i = g i) → accN f n = accN g n
  | 0, _ => rfl
  | n + 1, h => by
    have h1 := accN_congr (n := n) (fun i hi => h i (by omega))
    simp only [accN]
    rw [h1, h n (by omega)]
theorem accN_add (f g : Nat → Int) : ∀ n, accN (fun i => f i + g i) n = accN f n + accN g n
  | 0 => rfl
  | n + 1 => by
    simp only [accN]
    rw [accN_add f g n]
    omega
theorem accN_zero : ∀ n, accN (fun _ => 0) n = 0
  | 0 => rfl
  | n + 1 => by
    simp only [accN]
    rw [accN_zero n]
    rfl
theorem accN_mul (c : Int) (f : Nat → Int) : ∀ n, accN (fun i => c * f i) n = c * accN f n
  | 0 => by simp [accN]
  | n + 1 => by
    simp only [accN]
    rw [accN_mul c f n, Int.mul_add]
theorem accN_bnd {f : Nat → Int} {a b : Int} : ∀ {n : Nat}, (∀ i, i < n → a ≤ f i ∧ f i ≤ b) → (n : Int) * a ≤ accN f n ∧ accN f n ≤ (n : Int) * b
  | 0, _ => by simp [accN]
  | n + 1, h => by
    have h1 := accN_bnd (n := n) (fun i hi => h i (by omega))
    have h2 := h n (by omega)
    simp only [accN]
    have e1 : ((n + 1 : Nat) : Int) * a = (n : Int) * a + a := by rw [Int.natCast_add, Int.add_mul]; simp
    have e2 : ((n + 1 : Nat) : Int) * b = (n : Int) * b + b := by rw [Int.natCast_add, Int.add_mul]; simp
    rw [e1, e2]
    omega
theorem accN_one (v : Nat) (f : Nat → Int) : ∀ n, accN (fun s => if v = s then f s else 0) n = if v < n then f v else 0
  | 0 => by simp [accN]
  | n + 1 => by
    simp only [accN]
    rw [accN_one v f n]
    by_cases h : v = n
    · subst h; simp
    · by_cases h2 : v < n
      · have : v < n + 1 := by omega
        simp [h, h2, this]
      · have : ¬ v < n + 1 := by omega
        simp [h, h2, this]
theorem accN_swap (f : Nat → Nat → Int) (n : Nat) : ∀ m, accN (fun i => accN (f i) n) m = accN (fun j => accN (fun i => f i j) m) n
  | 0 => by
    simp only [accN]
    rw [accN_zero]
  | m + 1 => by
    simp only [accN]
    rw [accN_swap f n m, accN_add]
/-- The sum of the values at the elements of a list. -/
def sumL (f : Nat → Int) : List Nat → Int
  | [] => 0
  | x :: t => f x + sumL f t
theorem sumL_app (f : Nat → Int) (M : List Nat) : ∀ L, sumL f (L ++ M) = sumL f L + sumL f M
  | [] => by simp [sumL]
  | x :: t => by
    rw [List.cons_append]
    simp only [sumL]
    rw [sumL_app f M t]
    omega
theorem sumL_congr {f g : Nat → Int} : ∀ {L : List Nat}, (∀ x ∈ L, f x = g x) → sumL f L = sumL g L
  | [], _ => rfl
  | x :: t, h => by
    simp only [sumL]
    rw [h x (by simp), sumL_congr (fun y hy => h y (by simp [hy]))]
theorem sumL_bnd {f : Nat → Int} {a b : Int} : ∀ {L : List Nat}, (∀ x ∈ L, a ≤ f x ∧ f x ≤ b) → (L.length : Int) * a ≤ sumL f L ∧ sumL f L ≤ (L.length : Int) * b
  | [], _ => by simp [sumL]
  | x :: t, h => by
    have h1 := sumL_bnd (L := t) (fun y hy => h y (by simp [hy]))
    have h2 := h x (by simp)
    simp only [sumL, List.length_cons]
    have e1 : ((t.length + 1 : Nat) : Int) * a = (t.length : Int) * a + a := by rw [Int.natCast_add, Int.add_mul]; simp
    have e2 : ((t.length + 1 : Nat) : Int) * b = (t.length : Int) * b + b := by rw [Int.natCast_add, Int.add_mul]; simp
    rw [e1, e2]
    omega
theorem sumL_accN (f : Nat → Nat → Int) (n : Nat) : ∀ L, sumL (fun x => accN (f x) n) L = accN (fun j => sumL (fun x => f x j) L) n
  | [] => by
    simp only [sumL]
    rw [accN_zero]
  | x :: t => by
    simp only [sumL]
    rw [sumL_accN f n t, accN_add]
theorem sumL_add (f g : Nat → Int) : ∀ L, sumL (fun x => f x + g x) L = sumL f L + sumL g L
  | [] => rfl
  | x :: t => by
    simp only [sumL]
    rw [sumL_add f g t]
    omega
theorem sumL_swap (f : Nat → Nat → Int) (M : List Nat) : ∀ L, sumL (fun x => sumL (f x) M) L = sumL (fun y => sumL (fun x => f x y) L) M
  | [] => by
    simp only [sumL]
    induction M with
    | nil => rfl
    | cons y t ih => simp only [sumL]; rw [← ih]; rfl
  | x :: t => by
    simp only [sumL]
    rw [sumL_swap f M t, sumL_add]
theorem accN_take (f : Nat → Int) (L : List Nat) : ∀ k, k ≤ L.length → accN (fun i => f (L.getD i 0)) k = sumL f (L.take k)
  | 0, _ => by simp [accN, sumL]
  | k + 1, h => by
    simp only [accN]
    rw [accN_take f L k (by omega), List.take_add_one, List.getElem?_eq_getElem (by omega), sumL_app]
    simp [sumL, List.getD, List.getElem?_eq_getElem (show k < L.length by omega)]
theorem accN_list (f : Nat → Int) (L : List Nat) : accN (fun i => f (L.getD i 0)) L.length = sumL f L := by
  rw [accN_take f L _ (Nat.le_refl _), List.take_length]
/-- Whether an element is one of a set, as a number. -/
def bitI (a k : Nat) : Int := if a.testBit k = true then 1 else 0
theorem bitI_bnd (a k : Nat) : 0 ≤ bitI a k ∧ bitI a k ≤ 1 := by unfold bitI; split <;> omega
theorem hit_sumL (l : List Int) (x z : Nat) : ∀ M, (hitN l M x z : Int) = sumL (fun y => if (addN l (x : Int) (y : Int)).toNat = z then 1 else 0) M
  | [] => rfl
  | y :: t => by
    have ih := hit_sumL l x z t
    simp only [sumL]
    rw [← ih]
    unfold hitN
    rw [List.countP_cons]
    by_cases h : (addN l (x : Int) (y : Int)).toNat = z
    · simp [h]; omega
    · simp [h]
theorem par_sumL (l : List Int) (M : List Nat) (z : Nat) : ∀ L, (parN l L M z : Int) = sumL (fun x => (hitN l M x z : Int)) L
  | [] => rfl
  | x :: t => by
    have ih := par_sumL l M z t
    simp only [sumL]
    rw [← ih]
    simp [parN]
theorem parN_comm (l : List Int) (L M : List Nat) (z : Nat) : parN l L M z = parN l M L z := by
  have h1 := par_sumL l M z L
  have h2 := par_sumL l L z M
  have e1 : sumL (fun x => (hitN l M x z : Int)) L = sumL (fun x => sumL (fun y => if (addN l (x : Int) (y : Int)).toNat = z then 1 else 0) M) L := sumL_congr (fun x _ => hit_sumL l x z M)
  have e2 : sumL (fun y => (hitN l L y z : Int)) M = sumL (fun y => sumL (fun x => if (addN l (x : Int) (y : Int)).toNat = z then 1 else 0) L) M := sumL_congr (fun y _ => by
    rw [hit_sumL]
    exact sumL_congr (fun x _ => by rw [addN_comm l (y : Int) (x : Int)]))
  rw [sumL_swap] at e1
  rw [e1, ← e2, ← h2] at h1
  omega
/-- A function of the sum, added up over pairs: each value counts as often as it is a sum. -/
theorem hit_sum {l : List Int} (ho : Ords l) (f : Nat → Int) (x : Nat) : ∀ M, sumL (fun y => f (addN l (x : Int) (y : Int)).toNat) M = accN (fun s => (hitN l M x s : Int) * f s) (prodI l).toNat
  | [] => by
    have : accN (fun s => (hitN l [] x s : Int) * f s) (prodI l).toNat = accN (fun _ => 0) (prodI l).toNat := accN_congr (fun i _ => by simp [hitN])
    rw [this, accN_zero]
    rfl
  | y :: t => by
    simp only [sumL]
    rw [hit_sum ho f x t]
    have hv := addN_in ho (x : Int) (y : Int)
    have hlt : (addN l (x : Int) (y : Int)).toNat < (prodI l).toNat := by omega
    have e : accN (fun s => (hitN l (y :: t) x s : Int) * f s) (prodI l).toNat = accN (fun s => (hitN l t x s : Int) * f s + (if (addN l (x : Int) (y : Int)).toNat = s then f s else 0)) (prodI l).toNat := accN_congr (fun s _ => by
      rw [hit_sumL l x s (y :: t), hit_sumL l x s t]
      simp only [sumL]
      by_cases h : (addN l (x : Int) (y : Int)).toNat = s
      · rw [if_pos h, if_pos h, Int.add_mul]; omega
      · rw [if_neg h, if_neg h]; simp)
    rw [e, accN_add, accN_one, if_pos hlt]
    omega
theorem par_sum {l : List Int} (ho : Ords l) (f : Nat → Int) (M : List Nat) : ∀ L, sumL (fun x => sumL (fun y => f (addN l (x : Int) (y : Int)).toNat) M) L = accN (fun s => (parN l L M s : Int) * f s) (prodI l).toNat
  | [] => by
    have : accN (fun s => (parN l [] M s : Int) * f s) (prodI l).toNat = accN (fun _ => 0) (prodI l).toNat := accN_congr (fun i _ => by simp [parN])
    rw [this, accN_zero]
    rfl
  | x :: t => by
    simp only [sumL]
    rw [par_sum ho f M t, hit_sum ho f x M, ← accN_add]
    exact accN_congr (fun s _ => by
      have : (parN l (x :: t) M s : Int) = (hitN l M x s : Int) + (parN l t M s : Int) := by simp [parN]
      rw [this, Int.add_mul])
/-- s is a sum of u and an element of a just where s - u is in a. -/
theorem mov_sub {l : List Int} (hg : grpB l = true) {a : Nat} (ha : a < 2 ^ (prodI l).toNat) (u : Nat) {s : Nat} (hs : (s : Int) < prodI l) : (movN l a u).testBit s = a.testBit (addN l (s : Int) (negN l (u : Int))).toNat := by
  have ho := ords_grp hg
  have h24 := grp_pow hg ha
  apply Bool.eq_iff_iff.2
  rw [movN_bit l h24]
  constructor
  · rintro ⟨y, hy, e⟩
    have hyp : (y : Int) < prodI l := grp_elt hg ha ((mem_bits h24 y).2 hy)
    have a1 := addN_in ho (y : Int) (u : Int)
    have e2 : (s : Int) = addN l (y : Int) (u : Int) := by omega
    rw [e2, add_neg_back ho (u : Int) (by omega) hyp, Int.toNat_natCast]
    exact hy
  · intro h
    have a1 := addN_in ho (s : Int) (negN l (u : Int))
    refine ⟨_, h, ?_⟩
    rw [Int.toNat_of_nonneg a1.1, addN_assoc ho, addN_comm l (negN l (u : Int)) (u : Int), addN_neg ho, addN_zero ho (by omega) hs]
    omega
theorem par_bits {l : List Int} (hg : grpB l = true) {a : Nat} (ha : a < 2 ^ (prodI l).toNat) (L : List Nat) {s : Nat} (hs : (s : Int) < prodI l) : (parN l L (bitsN a) s : Int) = sumL (fun z => bitI a (addN l (s : Int) (negN l (z : Int))).toNat) L := by
  rw [par_sumL]
  refine sumL_congr (fun u _ => ?_)
  rw [hit_iff hg ha, mov_sub hg ha u hs]
  unfold bitI
  split <;> rfl
/-- The quadruples of one set, counted one by one. -/
def quaN (l : List Int) (a : Nat) : Int := sumL (fun x => sumL (fun y => sumL (fun z => bitI a (addN l (addN l (x : Int) (y : Int)) (negN l (z : Int))).toNat) (bitsN a)) (bitsN a)) (bitsN a)
/-- The squares of the counts. -/
def sqN (l : List Int) (a b : Nat) : Int := accN (fun s => (parN l (bitsN a) (bitsN b) s : Int) * (parN l (bitsN a) (bitsN b) s : Int)) (prodI l).toNat
theorem qua_sq {l : List Int} (hg : grpB l = true) {a : Nat} (ha : a < 2 ^ (prodI l).toNat) : quaN l a = sqN l a a := by
  have ho := ords_grp hg
  unfold sqN
  rw [← par_sum ho (fun s => (parN l (bitsN a) (bitsN a) s : Int)) (bitsN a) (bitsN a)]
  unfold quaN
  refine sumL_congr (fun x _ => sumL_congr (fun y _ => ?_))
  have h1 := addN_in ho (x : Int) (y : Int)
  rw [par_bits hg ha _ (by omega), Int.toNat_of_nonneg h1.1]
theorem qua_up (l : List Int) (a : Nat) : quaN l a ≤ ((bitsN a).length : Int) * (((bitsN a).length : Int) * ((bitsN a).length : Int)) := by
  have h1 : ∀ x y : Nat, sumL (fun z => bitI a (addN l (addN l (x : Int) (y : Int)) (negN l (z : Int))).toNat) (bitsN a) ≤ ((bitsN a).length : Int) := fun x y => by
    have := (sumL_bnd (L := bitsN a) (a := 0) (b := 1) (fun z _ => bitI_bnd a (addN l (addN l (x : Int) (y : Int)) (negN l (z : Int))).toNat)).2
    omega
  have h0 : ∀ x y : Nat, 0 ≤ sumL (fun z => bitI a (addN l (addN l (x : Int) (y : Int)) (negN l (z : Int))).toNat) (bitsN a) := fun x y => by
    have := (sumL_bnd (L := bitsN a) (a := 0) (b := 1) (fun z _ => bitI_bnd a (addN l (addN l (x : Int) (y : Int)) (negN l (z : Int))).toNat)).1
    omega
  have h2 : ∀ x : Nat, 0 ≤ sumL (fun y => sumL (fun z => bitI a (addN l (addN l (x : Int) (y : Int)) (negN l (z : Int))).toNat) (bitsN a)) (bitsN a) ∧ sumL (fun y => sumL (fun z => bitI a (addN l (addN l (x : Int) (y : Int)) (negN l (z : Int))).toNat) (bitsN a)) (bitsN a) ≤ ((bitsN a).length : Int) * ((bitsN a).length : Int) := fun x => by
    have := sumL_bnd (L := bitsN a) (a := 0) (b := ((bitsN a).length : Int)) (fun y _ => ⟨h0 x y, h1 x y⟩)
    omega
  exact (sumL_bnd (L := bitsN a) (a := 0) (fun x _ => h2 x)).2
theorem sumL_mem {f : Nat → Int} (h0 : ∀ x, 0 ≤ f x) : ∀ {L : List Nat} {x : Nat}, x ∈ L → f x ≤ sumL f L
  | y :: t, x, h => by
    simp only [sumL]
    have hs : 0 ≤ sumL f t := by
      clear h
      induction t with
      | nil => simp [sumL]
      | cons z u ih => simp only [sumL]; have := h0 z; omega
    rcases List.mem_cons.1 h with rfl | h
    · omega
    · have := sumL_mem h0 h
      have := h0 y
      omega
theorem qua_lo {l : List Int} (hg : grpB l = true) {a : Nat} (ha : a < 2 ^ (prodI l).toNat) : ((bitsN a).length : Int) * ((bitsN a).length : Int) ≤ quaN l a := by
  have ho := ords_grp hg
  have h24 := grp_pow hg ha
  have h1 : ∀ x ∈ bitsN a, ∀ y ∈ bitsN a, 1 ≤ sumL (fun z => bitI a (addN l (addN l (x : Int) (y : Int)) (negN l (z : Int))).toNat) (bitsN a) := fun x hx y hy => by
    have h := sumL_mem (f := fun z => bitI a (addN l (addN l (x : Int) (y : Int)) (negN l (z : Int))).toNat) (fun z => (bitI_bnd a _).1) hy
    have e : bitI a (addN l (addN l (x : Int) (y : Int)) (negN l (y : Int))).toNat = 1 := by
      rw [add_neg_back ho (y : Int) (by omega) (grp_elt hg ha hx), Int.toNat_natCast]
      unfold bitI
      rw [if_pos ((mem_bits h24 x).1 hx)]
    simp only [e] at h
    exact h
  have hb : ∀ x y : Nat, sumL (fun z => bitI a (addN l (addN l (x : Int) (y : Int)) (negN l (z : Int))).toNat) (bitsN a) ≤ ((bitsN a).length : Int) := fun x y => by
    have := (sumL_bnd (L := bitsN a) (a := 0) (b := 1) (fun z _ => bitI_bnd a (addN l (addN l (x : Int) (y : Int)) (negN l (z : Int))).toNat)).2
    omega
  have h2 : ∀ x ∈ bitsN a, ((bitsN a).length : Int) ≤ sumL (fun y => sumL (fun z => bitI a (addN l (addN l (x : Int) (y : Int)) (negN l (z : Int))).toNat) (bitsN a)) (bitsN a) ∧ sumL (fun y => sumL (fun z => bitI a (addN l (addN l (x : Int) (y : Int)) (negN l (z : Int))).toNat) (bitsN a)) (bitsN a) ≤ ((bitsN a).length : Int) * ((bitsN a).length : Int) := fun x hx => by
    have := sumL_bnd (L := bitsN a) (a := 1) (b := ((bitsN a).length : Int)) (fun y hy => ⟨h1 x hx y hy, hb x y⟩)
    omega
  exact (sumL_bnd (L := bitsN a) (fun x hx => h2 x hx)).1
/-- The numbers below k that are chosen, as a set. -/
def selK (P : Nat → Bool) (k : Nat) : Nat := orF (fun x : Nat => (x : Int)) ((List.range k).filter P)
theorem selK_zero (P : Nat → Bool) : selK P 0 = 0 := rfl
theorem selK_yes {P : Nat → Bool} {k : Nat} (h : P k = true) : selK P (k + 1) = selK P k ||| 2 ^ k := by
  unfold selK
  rw [List.range_succ, List.filter_append]
  simp only [List.filter_cons, List.filter_nil, h, if_true]
  rw [orF_snoc, Int.toNat_natCast]
theorem selK_no {P : Nat → Bool} {k : Nat} (h : P k = false) : selK P (k + 1) = selK P k := by
  unfold selK
  rw [List.range_succ, List.filter_append]
  simp [h]
theorem selK_bit (P : Nat → Bool) (k x : Nat) : (selK P k).testBit x = true ↔ x < k ∧ P x = true := by
  unfold selK
  rw [orF_bit]
  constructor
  · rintro ⟨y, hy, e⟩
    rw [List.mem_filter, List.mem_range] at hy
    rw [Int.toNat_natCast] at e
    subst e
    exact hy
  · intro h
    exact ⟨x, by rw [List.mem_filter, List.mem_range]; exact h, Int.toNat_natCast x⟩
theorem selK_lt (P : Nat → Bool) (k : Nat) : selK P k < 2 ^ k :=
  orF_lt _ _ _ (fun x hx => by rw [List.mem_filter, List.mem_range] at hx; rw [Int.toNat_natCast]; exact hx.1)
theorem selK_lt24 (P : Nat → Bool) {k : Nat} (hk : k ≤ 24) : selK P k < 2 ^ 24 := Nat.lt_of_lt_of_le (selK_lt P k) (Nat.pow_le_pow_right (by decide) hk)
theorem tabE_two {l : List Int} {a b : Int} (h : two l a b = true) : tabE l a b = tabN l a.toNat b.toNat := by unfold tabE; rw [if_pos h]
theorem tabE_no {l : List Int} {a b : Int} (h : two l a b = false) : tabE l a b = [] := by unfold tabE; rw [if_neg (by simp [h])]
theorem tabN_len (l : List Int) (a b : Nat) : (tabN l a b).length = (prodI l).toNat := by unfold tabN; rw [tabF_len]
theorem tabN_at (l : List Int) (a b : Nat) {k : Nat} (h : k < (prodI l).toNat) : (tabN l a b).getD k 0 = (parN l (bitsN a) (bitsN b) k : Nat) := by unfold tabN; rw [tabF_at _ _ _ h]
theorem tabN_bnd (l : List Int) (a b : Nat) {k : Nat} (h : k < (prodI l).toNat) : 0 ≤ (tabN l a b).getD k 0 ∧ (tabN l a b).getD k 0 ≤ 576 := by
  rw [tabN_at l a b h]
  have h1 := parN_le l (bitsN b) k (bitsN a)
  have h2 : (bitsN a).length * (bitsN b).length ≤ 24 * 24 := Nat.mul_le_mul (bits_le a) (bits_le b)
  omega
/-- The answers of the chapter. -/
def corE (l : List Int) (a b : Int) : List Int := if two l a b = true then tabN l a.toNat (ngN l b.toNat) else []
def engE (l : List Int) (a b : Int) : Int := if two l a b = true then accN (fun i => (tabN l a.toNat b.toNat).getD i 0 * (tabN l a.toNat b.toNat).getD i 0) (prodI l).toNat else -1
def quaE (l : List Int) (a : Int) : Int := if isS l a = true then quaN l a.toNat else -1
def popB (l : List Int) (a b t : Int) : Bool := two l a b && (decide (1 ≤ t) && decide (t ≤ 24))
def popE (l : List Int) (a b t : Int) : Int := if popB l a b t = true then ((selK (fun i => decide (t ≤ (tabN l a.toNat b.toNat).getD i 0)) (prodI l).toNat : Nat) : Int) else -1
def triB (l : List Int) (a b c : Int) : Bool := two l a b && isS l c
def triE (l : List Int) (a b c : Int) : Int := if triB l a b c = true then accN (fun i => bitI c.toNat i * (tabN l a.toNat b.toNat).getD i 0) (prodI l).toNat else -1
theorem eng_sq (l : List Int) (a b : Nat) : accN (fun i => (tabN l a b).getD i 0 * (tabN l a b).getD i 0) (prodI l).toNat = sqN l a b := by
  unfold sqN
  exact accN_congr (fun i hi => by rw [tabN_at l a b hi])
theorem qua_eng (l : List Int) (a : Int) : quaE l a = engE l a a := by
  unfold quaE engE two
  rw [Bool.and_self]
  cases h : isS l a with
  | false => rfl
  | true =>
    obtain ⟨hg, s, rfl, hs, _⟩ := isS_true h
    rw [if_pos rfl, if_pos rfl, eng_sq, qua_sq hg (by simpa using hs)]
/-- The program's way to count triples: the sums of each element that are in the third set. -/
theorem bits_acc {m n : Nat} (hm : m < 2 ^ n) (hn : n ≤ 24) : ((bitsN m).length : Int) = accN (bitI m) n := by
  rw [← upK_full hm hn]
  clear hm hn
  induction n with
  | zero => rfl
  | succ k ih =>
    simp only [accN]
    rw [← ih, upK_succ]
    unfold bitI
    by_cases h : m.testBit k = true
    · rw [if_pos h, if_pos h, List.length_append]; simp
    · rw [if_neg h, if_neg h]; omega
theorem tri_prog {l : List Int} (hg : grpB l = true) {a b c : Nat} (hb : b < 2 ^ (prodI l).toNat) : sumL (fun x => ((bitsN (movN l b x &&& c)).length : Int)) (bitsN a) = accN (fun i => bitI c i * (tabN l a b).getD i 0) (prodI l).toNat := by
  have hpr := (ords_grp hg).prod
  have e1 : sumL (fun x => ((bitsN (movN l b x &&& c)).length : Int)) (bitsN a) = sumL (fun x => accN (bitI (movN l b x &&& c)) (prodI l).toNat) (bitsN a) := sumL_congr (fun x _ => bits_acc (Nat.lt_of_le_of_lt Nat.and_le_left (movN_lt hg b x)) (by omega))
  rw [e1, sumL_accN]
  refine accN_congr (fun i hi => ?_)
  rw [tabN_at l a b hi, par_sumL]
  have : ∀ L : List Nat, sumL (fun x => bitI (movN l b x &&& c) i) L = bitI c i * sumL (fun x => (hitN l (bitsN b) x i : Int)) L := by
    intro L
    induction L with
    | nil => simp [sumL]
    | cons x t ih =>
      simp only [sumL]
      rw [ih, Int.mul_add, hit_iff hg hb]
      unfold bitI
      rw [Nat.testBit_and]
      cases (movN l b x).testBit i <;> cases c.testBit i <;> simp
  exact this _
theorem tri_comm (l : List Int) (a b c : Int) : triE l a b c = triE l b a c := by
  have e : triB l a b c = triB l b a c := by unfold triB two; rw [Bool.and_comm (isS l a)]
  unfold triE
  rw [e]
  split
  · exact accN_congr (fun i hi => by rw [tabN_at _ _ _ hi, tabN_at _ _ _ hi, parN_comm])
  · rfl
end Go.Proofs.YtaacofbmbpkeoaaDoor
