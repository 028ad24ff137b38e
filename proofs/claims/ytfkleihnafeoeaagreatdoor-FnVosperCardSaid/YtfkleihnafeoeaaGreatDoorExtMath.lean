/- What a subgroup and one element more generate: the shifts of the subgroup by the element's multiples; hulls; cosets. -/
import Derived.Test.YtfkleihnafeoeaaGreatDoorSubSpec
namespace Go.Proofs.YtfkleihnafeoeaaGreatDoor
theorem movN_zero {l : List Int} (hg : grpB l = true) {s : Nat} (hs : s < 2 ^ (prodI l).toNat) : movN l s 0 = s :=
  bits_same fun z => by
    rw [movN_bit l (grp_pow hg hs)]
    constructor
    · rintro ⟨y, hy, e⟩
      rw [show (((0 : Nat) : Nat) : Int) = 0 from rfl, addN_zero (ords_grp hg) (by omega) (el_of hg hs hy)] at e
      have : y = z := by simpa using e
      rw [← this]; exact hy
    · intro hz
      exact ⟨z, hz, by rw [show (((0 : Nat) : Nat) : Int) = 0 from rfl, addN_zero (ords_grp hg) (by omega) (el_of hg hs hz)]; simp⟩
theorem movN_two {l : List Int} (hg : grpB l = true) {s : Nat} (hs : s < 2 ^ 24) (u x : Nat) : movN l (movN l s u) x = movN l s (addN l (u : Int) (x : Int)).toNat :=
  bits_same fun z => by
    have hO := ords_grp hg
    rw [movN_bit l (movN_lt24 hg s u), movN_bit l hs]
    constructor
    · rintro ⟨y, hy, e⟩
      obtain ⟨y0, h0, e0⟩ := (movN_bit l hs u y).1 hy
      refine ⟨y0, h0, ?_⟩
      rw [nat_add hO, ← addN_assoc hO, ← nat_add hO (y0 : Int) (u : Int), e0, e]
    · rintro ⟨y0, h0, e⟩
      refine ⟨(addN l (y0 : Int) (u : Int)).toNat, (movN_bit l hs u _).2 ⟨y0, h0, rfl⟩, ?_⟩
      rw [nat_add hO, addN_assoc hO, ← nat_add hO (u : Int) (x : Int), e]
theorem shift_inj {l : List Int} (hg : grpB l = true) {s t : Nat} (hs : s < 2 ^ (prodI l).toNat) (ht : t < 2 ^ (prodI l).toNat) {k : Nat} (h : movN l s k = movN l t k) : s = t := by
  obtain ⟨u, hu, _⟩ := neg_nat hg (k : Int)
  have hO := ords_grp hg
  have e : ∀ {r : Nat}, r < 2 ^ (prodI l).toNat → movN l (movN l r k) u = r := fun {r} hr => by
    rw [movN_two hg (grp_pow hg hr), ← hu, addN_neg hO]
    exact movN_zero hg hr
  rw [← e hs, ← e ht, h]
/-- The multiple of an element. -/
def multN (l : List Int) (x k : Nat) : Nat := (mulN l (x : Int) (k : Int)).toNat
theorem multN_nat {l : List Int} (hg : grpB l = true) (x k : Nat) : ((multN l x k : Nat) : Int) = mulN l (x : Int) (k : Int) := Int.toNat_of_nonneg (mulN_bnd (ords_grp hg) _ _).1
theorem multN_zero (l : List Int) (x : Nat) : multN l x 0 = 0 := by unfold multN; rw [show (((0 : Nat) : Nat) : Int) = 0 from rfl, _root_.Go.Proofs.YtfkleihnafeoeaaGreatDoor.mulN_zero]; rfl
theorem multN_succ {l : List Int} (hg : grpB l = true) (x k : Nat) : (addN l (multN l x k : Nat) (x : Int)).toNat = multN l x (k + 1) := by
  rw [multN_nat hg, mulN_succ (ords_grp hg)]
  unfold multN
  rw [Int.natCast_add]; rfl
theorem multN_step {l : List Int} (hg : grpB l = true) (x k : Nat) (y : Int) : addN l (addN l y (multN l x k : Nat)) (x : Int) = addN l y (multN l x (k + 1) : Nat) := by
  have hO := ords_grp hg
  rw [addN_assoc hO, ← multN_succ hg, nat_add hO]
/-- The shift by the multiple. -/
def cosK (l : List Int) (s x k : Nat) : Nat := movN l s (multN l x k)
theorem cosK_zero {l : List Int} (hg : grpB l = true) {s : Nat} (hs : s < 2 ^ (prodI l).toNat) (x : Nat) : cosK l s x 0 = s := by unfold cosK; rw [multN_zero, movN_zero hg hs]
theorem cosK_succ {l : List Int} (hg : grpB l = true) {s : Nat} (hs : s < 2 ^ 24) (x k : Nat) : movN l (cosK l s x k) x = cosK l s x (k + 1) := by
  unfold cosK; rw [movN_two hg hs, multN_succ hg]
theorem cosK_lt {l : List Int} (hg : grpB l = true) (s x k : Nat) : cosK l s x k < 2 ^ (prodI l).toNat := movN_lt hg _ _
theorem multN_add {l : List Int} (hg : grpB l = true) (u a : Nat) : ∀ b : Nat, addN l (multN l u a : Nat) (multN l u b : Nat) = (multN l u (a + b) : Nat) := by
  have hO := ords_grp hg
  intro b
  induction b with
  | zero => rw [multN_zero, show (((0 : Nat) : Nat) : Int) = 0 from rfl, Nat.add_zero, multN_nat hg]; exact addN_zero hO (mulN_bnd hO _ _).1 (mulN_bnd hO _ _).2
  | succ b ih => rw [← multN_step hg, ih, ← nat_add hO, multN_succ hg]; rfl
theorem cosK_add {l : List Int} (hg : grpB l = true) {s : Nat} (hs : s < 2 ^ 24) (x a b : Nat) : movN l (cosK l s x a) (multN l x b) = cosK l s x (a + b) := by
  unfold cosK
  rw [movN_two hg hs, multN_add hg, Int.toNat_natCast]
theorem least_pos (p : Nat → Prop) (h : ∃ d, 0 < d ∧ p d) : ∃ d, 0 < d ∧ p d ∧ ∀ e, 0 < e → e < d → ¬ p e := by
  obtain ⟨d, h1, h2⟩ := h
  induction d using Nat.strongRecOn with
  | _ d ih =>
    by_cases hc : ∃ e, 0 < e ∧ e < d ∧ p e
    · obtain ⟨e, e1, e2, e3⟩ := hc
      exact ih e e2 e1 e3
    · exact ⟨d, h1, h2, fun e e1 e2 e3 => hc ⟨e, e1, e2, e3⟩⟩
theorem cosK_back {l : List Int} (hg : grpB l = true) {s : Nat} (hs : s < 2 ^ (prodI l).toNat) (x : Nat) : ∃ m, 1 ≤ m ∧ m ≤ 24 ∧ cosK l s x m = s := by
  obtain ⟨m, h1, h2, h3, _⟩ := isOrd_ex (ords_grp hg) (x : Int)
  refine ⟨m, h1, h2, ?_⟩
  unfold cosK
  rw [show multN l x m = 0 by unfold multN; rw [h3]; rfl, movN_zero hg hs]
/-- The first time that the shifts come back. -/
theorem cosK_first {l : List Int} (hg : grpB l = true) {s : Nat} (hs : s < 2 ^ (prodI l).toNat) (x : Nat) : ∃ m, 0 < m ∧ cosK l s x m = s ∧ ∀ e, 0 < e → e < m → cosK l s x e ≠ s := by
  obtain ⟨m, h1, _, h3⟩ := cosK_back hg hs x
  exact least_pos (fun d => cosK l s x d = s) ⟨m, h1, h3⟩
/-- Which of the shifts a set is. -/
def idxK (l : List Int) (s x m : Nat) (v : Int) : Nat := (List.range m).findIdx fun j => ((cosK l s x (j + 1) : Nat) : Int) == v
theorem idxK_at {l : List Int} (hg : grpB l = true) {s : Nat} (hs : s < 2 ^ (prodI l).toNat) {x m : Nat} (h3 : ∀ e, 0 < e → e < m → cosK l s x e ≠ s) {k : Nat} (k1 : 1 ≤ k) (km : k ≤ m) : idxK l s x m ((cosK l s x k : Nat) : Int) = k - 1 := by
  have hs24 := grp_pow hg hs
  unfold idxK
  have hlt : k - 1 < (List.range m).length := by rw [List.length_range]; omega
  rw [List.findIdx_eq hlt]
  refine ⟨?_, fun j hj => ?_⟩
  · rw [List.getElem_range, show k - 1 + 1 = k by omega]; simp
  · rw [List.getElem_range]
    simp only [beq_eq_false_iff_ne, ne_eq]
    intro e
    have e1 : cosK l s x (j + 1) = cosK l s x k := by omega
    have e2 : cosK l s x (k - (j + 1)) = s := by
      have h4 := cosK_add hg hs24 x (k - (j + 1)) (j + 1)
      rw [show k - (j + 1) + (j + 1) = k by omega, ← e1] at h4
      exact shift_inj hg (cosK_lt hg _ _ _) hs h4
    exact h3 _ (by omega) (by omega) e2
/-- The union of the first k. -/
def extK (l : List Int) (s x k : Nat) : Nat := orG (fun i => cosK l s x i) (List.range k)
theorem extK_one {l : List Int} (hg : grpB l = true) {s : Nat} (hs : s < 2 ^ (prodI l).toNat) (x : Nat) : extK l s x 1 = s := by
  unfold extK
  rw [show List.range 1 = [] ++ [0] from rfl, orG_snoc, orG_nil, cosK_zero hg hs, Nat.zero_or]
theorem extK_succ (l : List Int) (s x k : Nat) : extK l s x (k + 1) = extK l s x k ||| cosK l s x k := by
  unfold extK
  rw [List.range_succ, orG_snoc]
theorem extK_lt {l : List Int} (hg : grpB l = true) (s x k : Nat) : extK l s x k < 2 ^ (prodI l).toNat := orG_lt _ _ _ fun i _ => cosK_lt hg s x i
theorem extK_bit {l : List Int} {s : Nat} (hs : s < 2 ^ 24) (x k z : Nat) : (extK l s x k).testBit z = true ↔ ∃ i y, i < k ∧ s.testBit y = true ∧ (addN l (y : Int) (multN l x i : Nat)).toNat = z := by
  unfold extK
  rw [orG_bit]
  constructor
  · rintro ⟨i, hi, h⟩
    obtain ⟨y, hy, e⟩ := (movN_bit l hs _ z).1 h
    exact ⟨i, y, List.mem_range.1 hi, hy, e⟩
  · rintro ⟨i, y, hi, hy, e⟩
    exact ⟨i, List.mem_range.2 hi, (movN_bit l hs _ z).2 ⟨y, hy, e⟩⟩
/-- What generates with one element more. -/
theorem ext_clo {l : List Int} (hg : grpB l = true) {a s x k : Nat} (ha : a < 2 ^ (prodI l).toNat) (hc : IsClo l a s) (h1 : 1 ≤ k) (hk : cosK l s x k = s) : IsClo l (a ||| 2 ^ x) (extK l s x k) := by
  have hO := ords_grp hg
  have hs24 := grp_pow hg hc.lt
  have hsg := hc.sg hg
  have hpart := hc.holds hg ha
  refine ⟨extK_lt hg s x k, ⟨?_, ?_⟩, ?_⟩
  · exact (extK_bit hs24 x k 0).2 ⟨0, 0, h1, hc.keeps.1, by rw [multN_zero, show (((0 : Nat) : Nat) : Int) = 0 from rfl, addN_zero hO (by omega) (by have := hO.prod.1; omega)]; rfl⟩
  · intro u z hu hz
    obtain ⟨i, y, hi, hy, e⟩ := (extK_bit hs24 x k z).1 hz
    have ez : (z : Int) = addN l (y : Int) (multN l x i : Nat) := by rw [← e, nat_add hO]
    rw [ez]
    rw [Nat.testBit_or] at hu
    rcases Bool.or_eq_true_iff.1 hu with hu | hu
    · have h2 := hsg.2.2 u y (hpart u hu) hy
      refine (extK_bit hs24 x k _).2 ⟨i, _, hi, h2, ?_⟩
      rw [nat_add hO, addN_assoc hO, addN_comm l (u : Int), ← addN_assoc hO]
    · rw [Nat.testBit_two_pow, decide_eq_true_eq] at hu
      subst hu
      rw [multN_step hg]
      by_cases hlt : i + 1 < k
      · exact (extK_bit hs24 x k _).2 ⟨i + 1, y, hlt, hy, rfl⟩
      · obtain rfl : k = i + 1 := by omega
        have h3 : (cosK l s x (i + 1)).testBit (addN l (y : Int) (multN l x (i + 1) : Nat)).toNat = true := (movN_bit l hs24 _ _).2 ⟨y, hy, rfl⟩
        rw [hk] at h3
        refine (extK_bit hs24 x _ _).2 ⟨0, _, h1, h3, ?_⟩
        have h4 := addN_in hO (y : Int) (multN l x (i + 1) : Nat)
        rw [multN_zero, nat_add hO, show (((0 : Nat) : Nat) : Int) = 0 from rfl, addN_zero hO h4.1 h4.2]
  · intro t ht z hz
    obtain ⟨i, y, hi, hy, e⟩ := (extK_bit hs24 x k z).1 hz
    have hst : Part s t := hc.least t ⟨ht.1, fun u v hu hv => ht.2 u v (by rw [Nat.testBit_or, hu]; rfl) hv⟩
    have key : ∀ j, t.testBit (addN l (y : Int) (multN l x j : Nat)).toNat = true := by
      intro j
      induction j with
      | zero =>
        rw [multN_zero, show (((0 : Nat) : Nat) : Int) = 0 from rfl, addN_zero hO (by omega) (el_of hg hc.lt hy)]
        simpa using hst y hy
      | succ j ih =>
        have := ht.2 x _ (by rw [Nat.testBit_or, Nat.testBit_two_pow]; simp) ih
        rwa [nat_add hO, multN_step hg] at this
    rw [← e]; exact key i
/-- The set of a list's elements. -/
def prefN (L : List Nat) : Nat := orF (fun x : Nat => (x : Int)) L
theorem prefN_snoc (L : List Nat) (x : Nat) : prefN (L ++ [x]) = prefN L ||| 2 ^ x := by unfold prefN; rw [orF_snoc, Int.toNat_natCast]
theorem prefN_all {s : Nat} (hs : s < 2 ^ 24) : prefN (bitsN s) = s := bits_same fun i => by
  unfold prefN
  rw [orF_bit]
  constructor
  · rintro ⟨x, hx, e⟩
    rw [Int.toNat_natCast] at e
    rw [← e]; exact (mem_bits hs x).1 hx
  · intro h
    exact ⟨i, (mem_bits hs i).2 h, Int.toNat_natCast i⟩
theorem prefN_lt {L : List Nat} {k : Nat} (h : ∀ x ∈ L, x < k) : prefN L < 2 ^ k := orF_lt _ _ k fun x hx => by rw [Int.toNat_natCast]; exact h x hx
theorem clo_nil {l : List Int} (hg : grpB l = true) : IsClo l (prefN []) 1 where
  lt := (cloInv_one hg 0).lt
  keeps := ⟨rfl, fun x y hx _ => by rw [show prefN [] = 0 from rfl, Nat.zero_testBit] at hx; cases hx⟩
  least := (cloInv_one hg _).least
theorem shift_back {l : List Int} (hg : grpB l = true) {s : Nat} (hs : s < 2 ^ (prodI l).toNat) {k u : Nat} (hu : negN l (k : Int) = (u : Int)) : movN l (movN l s u) k = s := by
  have hO := ords_grp hg
  rw [movN_two hg (grp_pow hg hs), ← hu, addN_comm, addN_neg hO]
  exact movN_zero hg hs
/-- A set is a coset where its hull is it. -/
theorem cos_hull {l : List Int} {s k u c : Nat} (hs : isS l (s : Int) = true) (h0 : s ≠ 0) (hk : lowN s = k) (hu : negN l (k : Int) = (u : Int)) (hc : IsClo l (movN l s u) c) : cosB l (s : Int) = ((movN l c k : Nat) == s) := by
  obtain ⟨hg, s', e, h1, h24⟩ := isS_true hs
  have e' : s = s' := by omega
  subst e'
  have hv := movN_lt hg s u
  have h3 := sgB_clo (isS_of hg hv) hc
  unfold cosB
  rw [hs, Int.toNat_natCast, hk, hu, Int.toNat_natCast, h3]
  have hp : decide ((0 : Int) < (s : Int)) = true := by simp; omega
  rw [hp, Bool.true_and, Bool.true_and]
  have hb := shift_back hg h1 hu
  rw [Bool.eq_iff_iff]
  simp only [beq_iff_eq]
  constructor
  · intro e
    have : c = movN l s u := by omega
    rw [this]; exact hb
  · intro e
    have := shift_inj hg hc.lt hv (e.trans hb.symm)
    rw [this]
/-- The coset of an element is the one that holds it. -/
theorem coset_same {l : List Int} (hg : grpB l = true) {h x y : Nat} (hs : IsSg l h) (hy : (y : Int) < prodI l) (hb : (movN l h y).testBit x = true) : movN l h y = movN l h x := by
  have hO := ords_grp hg
  have h24 := grp_pow hg hs.1
  obtain ⟨u, hu, e⟩ := (movN_bit l h24 y x).1 hb
  have ex : (x : Int) = addN l (u : Int) (y : Int) := by rw [← e, nat_add hO]
  obtain ⟨v, hv, _⟩ := neg_nat hg (u : Int)
  -- the negative of an element of h lies in h
  have hneg : h.testBit v = true := by
    obtain ⟨m, m1, m2, m3, _⟩ := isOrd_ex hO (u : Int)
    have key : ∀ j, h.testBit (multN l u j) = true := by
      intro j
      induction j with
      | zero => rw [multN_zero]; exact hs.2.1
      | succ j ih => rw [← multN_succ hg]; exact hs.2.2 u _ hu ih
    have e1 : mulN l (u : Int) ((m - 1 : Nat) : Int) = negN l (u : Int) := by
      have h2 := mulN_succ hO (u : Int) ((m - 1 : Nat) : Int)
      rw [show (((m - 1 : Nat) : Int) + 1) = (m : Int) by omega, m3] at h2
      have hb1 := mulN_bnd hO (u : Int) ((m - 1 : Nat) : Int)
      have hb2 := negN_in hO (u : Int)
      have h3 : addN l (negN l (u : Int)) (u : Int) = 0 := by rw [addN_comm]; exact addN_neg hO _
      exact add_inj hO hb1.1 hb1.2 hb2.1 hb2.2 (h2.trans h3.symm)
    have := key (m - 1)
    unfold multN at this
    rw [e1, hv, Int.toNat_natCast] at this
    exact this
  refine bits_same fun z => ?_
  rw [movN_bit l h24, movN_bit l h24]
  constructor
  · rintro ⟨w, hw, ez⟩
    refine ⟨(addN l (w : Int) (v : Int)).toNat, hs.2.2 v w hneg hw, ?_⟩
    rw [nat_add hO, ex, addN_assoc hO, ← addN_assoc hO (v : Int), ← hv, addN_comm l (negN l (u : Int)), addN_neg hO, addN_comm l 0, addN_zero hO (by omega) hy, ez]
  · rintro ⟨w, hw, ez⟩
    refine ⟨(addN l (w : Int) (u : Int)).toNat, hs.2.2 u w hu hw, ?_⟩
    rw [nat_add hO, addN_assoc hO, ← ex, ez]
theorem coset_holds {l : List Int} (hg : grpB l = true) {h x : Nat} (hs : IsSg l h) (hx : (x : Int) < prodI l) : (movN l h x).testBit x = true :=
  (movN_bit l (grp_pow hg hs.1) x x).2 ⟨0, hs.2.1, zero_add' hg hx⟩
end Go.Proofs.YtfkleihnafeoeaaGreatDoor
