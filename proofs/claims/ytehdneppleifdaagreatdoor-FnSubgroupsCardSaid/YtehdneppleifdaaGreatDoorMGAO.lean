/- Merged: ExtMath SgMath. -/
import Derived.Test.YtehdneppleifdaaGreatDoorSubSpec
namespace Go.Proofs.YtehdneppleifdaaGreatDoor
theorem movN_zero {l : List Int} (hg : grpB l = true) {s : Nat} (hs : s < 2 ^ (prodI l).toNat) : movN l s 0 = s :=
  bits_same fun z => by
    rw [movN_bit l (grp_pow hg hs)]
    constructor
    · rintro ⟨y, hy, e⟩
      rw [show (((0 : Nat) : Nat) : Int) = 0 from rfl, addN_zero (ords_grp hg) (by omega) (el_of hg hs hy)] at e
      have : y = z := by simpa using e
      rw [← this]; exact hy
    · intro hz
      exact ⟨z, hz, by rw [show (((0 : Nat) : Nat) : Int) = 0 from rfl, addN_zero (ords_grp hg) (by omega) (el_of hg hs hz)]; simp⟩
theorem movN_two {l : List Int} (hg : grpB l = true) {s : Nat} (hs : s < 2 ^ 24) (u x : Nat) : movN l (movN l s u) x = movN l s (addN l (u : Int) (x : Int)).toNat :=
  bits_same fun z => by
    have hO := ords_grp hg
    rw [movN_bit l (movN_lt24 hg s u), movN_bit l hs]
    constructor
    · rintro ⟨y, hy, e⟩
      obtain ⟨y0, h0, e0⟩ := (movN_bit l hs u y).1 hy
      refine ⟨y0, h0, ?_⟩
      rw [nat_add hO, ← addN_assoc hO, ← nat_add hO (y0 : Int) (u : Int), e0, e]
    · rintro ⟨y0, h0, e⟩
      refine ⟨(addN l (y0 : Int) (u : Int)).toNat, (movN_bit l hs u _).2 ⟨y0, h0, rfl⟩, ?_⟩
      rw [nat_add hO, addN_assoc hO, ← nat_add hO (u : Int) (x : Int), e]
theorem shift_inj {l : List Int} (hg : grpB l = true) {s t : Nat} (hs : s < 2 ^ (prodI l).toNat) (ht : t < 2 ^ (prodI l).toNat) {k : Nat} (h : movN l s k = movN l t k) : s = t := by
  obtain ⟨u, hu, _⟩ := neg_nat hg (k : Int)
  have hO := ords_grp hg
  have e : ∀ {r : Nat}, r < 2 ^ (prodI l).toNat → movN l (movN l r k) u = r := fun {r} hr => by
    rw [movN_two hg (grp_pow hg hr), ← hu, addN_neg hO]
    exact movN_zero hg hr
  rw [← e hs, ← e ht, h]
/-- The multiple of an element. -/
def multN (l : List Int) (x k : Nat) : Nat := (mulN l (x : Int) (k : Int)).toNat
theorem multN_nat {l : List Int} (hg : grpB l = true) (x k : Nat) : ((multN l x k : Nat) : Int) = mulN l (x : Int) (k : Int) := Int.toNat_of_nonneg (mulN_bnd (ords_grp hg) _ _).1
theorem multN_zero (l : List Int) (x : Nat) : multN l x 0 = 0 := by unfold multN; rw [show (((0 : Nat) : Nat) : Int) = 0 from rfl, _root_.Go.Proofs.YtehdneppleifdaaGreatDoor.mulN_zero]; rfl
theorem multN_succ {l : List Int} (hg : grpB l = true) (x k : Nat) : (addN l (multN l x k : Nat) (x : Int)).toNat = multN l x (k + 1) := by
  rw [multN_nat hg, mulN_succ (ords_grp hg)]
  unfold multN
  rw [Int.natCast_add]; rfl
theorem multN_step {l : List Int} (hg : grpB l = true) (x k : Nat) (y : Int) : addN l (addN l y (multN l x k : Nat)) (x : Int) = addN l y (multN l x (k + 1) : Nat) := by
  have hO := ords_grp hg
  rw [addN_assoc hO, ← multN_succ hg, nat_add hO]
/-- The shift by the multiple. -/
def cosK (l : List Int) (s x k : Nat) : Nat := movN l s (multN l x k)
theorem cosK_zero {l : List Int} (hg : grpB l = true) {s : Nat} (hs : s < 2 ^ (prodI l).toNat) (x : Nat) : cosK l s x 0 = s := by unfold cosK; rw [multN_zero, movN_zero hg hs]
theorem cosK_succ {l : List Int} (hg : grpB l = true) {s : Nat} (hs : s < 2 ^ 24) (x k : Nat) : movN l (cosK l s x k) x = cosK l s x (k + 1) := by
  unfold cosK; rw [movN_two hg hs, multN_succ hg]
theorem cosK_lt {l : List Int} (hg : grpB l = true) (s x k : Nat) : cosK l s x k < 2 ^ (prodI l).toNat := movN_lt hg _ _
theorem multN_add {l : List Int} (hg : grpB l = true) (u a : Nat) : ∀ b : Nat, addN l (multN l u a : Nat) (multN l u b : Nat) = (multN l u (a + b) : Nat) := by
  have hO := ords_grp hg
  intro b
  induction b with
  | zero => rw [multN_zero, show (((0 : Nat) : Nat) : Int) = 0 from rfl, Nat.add_zero, multN_nat hg]; exact addN_zero hO (mulN_bnd hO _ _).1 (mulN_bnd hO _ _).2
  | succ b ih => rw [← multN_step hg, ih, ← nat_add hO, multN_succ hg]; rfl
theorem cosK_add {l : List Int} (hg : grpB l = true) {s : Nat} (hs : s < 2 ^ 24) (x a b : Nat) : movN l (cosK l s x a) (multN l x b) = cosK l s x (a + b) := by
  unfold cosK
  rw [movN_two hg hs, multN_add hg, Int.toNat_natCast]
theorem least_pos (p : Nat → Prop) (h : ∃ d, 0 < d ∧ p d) : ∃ d, 0 < d ∧ p d ∧ ∀ e, 0 < e → e < d → ¬ p e := by
  obtain ⟨d, h1, h2⟩ := h
  induction d using Nat.strongRecOn with
  | _ d ih =>
    by_cases hc : ∃ e, 0 < e ∧ e < d ∧ p e
    · obtain ⟨e, e1, e2, e3⟩ := hc
      exact ih e e2 e1 e3
    · exact ⟨d, h1, h2, fun e e1 e2 e3 => hc ⟨e, e1, e2, e3⟩⟩
theorem cosK_back {l : List Int} (hg : grpB l = true) {s : Nat} (hs : s < 2 ^ (prodI l).toNat) (x : Nat) : ∃ m, 1 ≤ m ∧ m ≤ 24 ∧ cosK l s x m = s := by
  obtain ⟨m, h1, h2, h3, _⟩ := isOrd_ex (ords_grp hg) (x : Int)
  refine ⟨m, h1, h2, ?_⟩
  unfold cosK
  rw [show multN l x m = 0 by unfold multN; rw [h3]; rfl, movN_zero hg hs]
/-- The first time that the shifts come back. -/
theorem cosK_first {l : List Int} (hg : grpB l = true) {s : Nat} (hs : s < 2 ^ (prodI l).toNat) (x : Nat) : ∃ m, 0 < m ∧ cosK l s x m = s ∧ ∀ e, 0 < e → e < m → cosK l s x e ≠ s := by
  obtain ⟨m, h1, _, h3⟩ := cosK_back hg hs x
  exact least_pos (fun d => cosK l s x d = s) ⟨m, h1, h3⟩
/-- Which of the shifts a set is. -/
def idxK (l : List Int) (s x m : Nat) (v : Int) : Nat := (List.range m).findIdx fun j => ((cosK l s x (j + 1) : Nat) : Int) == v
theorem idxK_at {l : List Int} (hg : grpB l = true) {s : Nat} (hs : s < 2 ^ (prodI l).toNat) {x m : Nat} (h3 : ∀ e, 0 < e → e < m → cosK l s x e ≠ s) {k : Nat} (k1 : 1 ≤ k) (km : k ≤ m) : idxK l s x m ((cosK l s x k : Nat) : Int) = k - 1 := by
  have hs24 := grp_pow hg hs
  unfold idxK
  have hlt : k - 1 < (List.range m).length := by rw [List.length_range]; omega
  rw [List.findIdx_eq hlt]
  refine ⟨?_, fun j hj => ?_⟩
  · rw [List.getElem_range, show k - 1 + 1 = k by omega]; simp
  · rw [List.getElem_range]
    simp only [beq_eq_false_iff_ne, ne_eq]
    intro e
    have e1 : cosK l s x (j + 1) = cosK l s x k := by omega
    have e2 : cosK l s x (k - (j + 1)) = s := by
      have h4 := cosK_add hg hs24 x (k - (j + 1)) (j + 1)
      rw [show k - (j + 1) + (j + 1) = k by omega, ← e1] at h4
      exact shift_inj hg (cosK_lt hg _ _ _) hs h4
    exact h3 _ (by omega) (by omega) e2
/-- The union of the first k. -/
def extK (l : List Int) (s x k : Nat) : Nat := orG (fun i => cosK l s x i) (List.range k)
theorem extK_one {l : List Int} (hg : grpB l = true) {s : Nat} (hs : s < 2 ^ (prodI l).toNat) (x : Nat) : extK l s x 1 = s := by
  unfold extK
  rw [show List.range 1 = [] ++ [0] from rfl, orG_snoc, orG_nil, cosK_zero hg hs, Nat.zero_or]
theorem extK_succ (l : List Int) (s x k : Nat) : extK l s x (k + 1) = extK l s x k ||| cosK l s x k := by
  unfold extK
  rw [List.range_succ, orG_snoc]
theorem extK_lt {l : List Int} (hg : grpB l = true) (s x k : Nat) : extK l s x k < 2 ^ (prodI l).toNat := orG_lt _ _ _ fun i _ => cosK_lt hg s x i
theorem extK_bit {l : List Int} {s : Nat} (hs : s < 2 ^ 24) (x k z : Nat) : (extK l s x k).testBit z = true ↔ ∃ i y, i < k ∧ s.testBit y = true ∧ (addN l (y : Int) (multN l x i : Nat)).toNat = z := by
  unfold extK
  rw [orG_bit]
  constructor
  · rintro ⟨i, hi, h⟩
    obtain ⟨y, hy, e⟩ := (movN_bit l hs _ z).1 h
    exact ⟨i, y, List.mem_range.1 hi, hy, e⟩
  · rintro ⟨i, y, hi, hy, e⟩
    exact ⟨i, List.mem_range.2 hi, (movN_bit l hs _ z).2 ⟨y, hy, e⟩⟩
/-- What generates with one element more. -/
theorem ext_clo {l : List Int} (hg : grpB l = true) {a s x k : Nat} (ha : a < 2 ^ (prodI l).toNat) (hc : IsClo l a s) (h1 : 1 ≤ k) (hk : cosK l s x k = s) : IsClo l (a ||| 2 ^ x) (extK l s x k) := by
  have hO := ords_grp hg
  have hs24 := grp_pow hg hc.lt
  have hsg := hc.sg hg
  have hpart := hc.holds hg ha
  refine ⟨extK_lt hg s x k, ⟨?_, ?_⟩, ?_⟩
  · exact (extK_bit hs24 x k 0).2 ⟨0, 0, h1, hc.keeps.1, by rw [multN_zero, show (((0 : Nat) : Nat) : Int) = 0 from rfl, addN_zero hO (by omega) (by have := hO.prod.1; omega)]; rfl⟩
  · intro u z hu hz
    obtain ⟨i, y, hi, hy, e⟩ := (extK_bit hs24 x k z).1 hz
    have ez : (z : Int) = addN l (y : Int) (multN l x i : Nat) := by rw [← e, nat_add hO]
    rw [ez]
    rw [Nat.testBit_or] at hu
    rcases Bool.or_eq_true_iff.1 hu with hu | hu
    · have h2 := hsg.2.2 u y (hpart u hu) hy
      refine (extK_bit hs24 x k _).2 ⟨i, _, hi, h2, ?_⟩
      rw [nat_add hO, addN_assoc hO, addN_comm l (u : Int), ← addN_assoc hO]
    · rw [Nat.testBit_two_pow, decide_eq_true_eq] at hu
      subst hu
      rw [multN_step hg]
      by_cases hlt : i + 1 < k
      · exact (extK_bit hs24 x k _).2 ⟨i + 1, y, hlt, hy, rfl⟩
      · obtain rfl : k = i + 1 := by omega
        have h3 : (cosK l s x (i + 1)).testBit (addN l (y : Int) (multN l x (i + 1) : Nat)).toNat = true := (movN_bit l hs24 _ _).2 ⟨y, hy, rfl⟩
        rw [hk] at h3
        refine (extK_bit hs24 x _ _).2 ⟨0, _, h1, h3, ?_⟩
        have h4 := addN_in hO (y : Int) (multN l x (i + 1) : Nat)
        rw [multN_zero, nat_add hO, show (((0 : Nat) : Nat) : Int) = 0 from rfl, addN_zero hO h4.1 h4.2]
  · intro t ht z hz
    obtain ⟨i, y, hi, hy, e⟩ := (extK_bit hs24 x k z).1 hz
    have hst : Part s t := hc.least t ⟨ht.1, fun u v hu hv => ht.2 u v (by rw [Nat.testBit_or, hu]; rfl) hv⟩
    have key : ∀ j, t.testBit (addN l (y : Int) (multN l x j : Nat)).toNat = true := by
      intro j
      induction j with
      | zero =>
        rw [multN_zero, show (((0 : Nat) : Nat) : Int) = 0 from rfl, addN_zero hO (by omega) (el_of hg hc.lt hy)]
        simpa using hst y hy
      | succ j ih =>
        have := ht.2 x _ (by rw [Nat.testBit_or, Nat.testBit_two_pow]; simp) ih
        rwa [nat_add hO, multN_step hg] at this
    rw [← e]; exact key i
/-- The set of a list's elements. -/
def prefN (L : List Nat) : Nat := orF (fun x : Nat => (x : Int)) L
theorem prefN_snoc (L : List Nat) (x : Nat) : prefN (L ++ [x]) = prefN L ||| 2 ^ x := by unfold prefN; rw [orF_snoc, Int.toNat_natCast]
theorem prefN_all {s : Nat} (hs : s < 2 ^ 24) : prefN (bitsN s) = s := bits_same fun i => by
  unfold prefN
  rw [orF_bit]
  constructor
  · rintro ⟨x, hx, e⟩
    rw [Int.toNat_natCast] at e
    rw [← e]; exact (mem_bits hs x).1 hx
  · intro h
    exact ⟨i, (mem_bits hs i).2 h, Int.toNat_natCast i⟩
theorem prefN_lt {L : List Nat} {k : Nat} (h : ∀ x ∈ L, x < k) : prefN L < 2 ^ k := orF_lt _ _ k fun x hx => by rw [Int.toNat_natCast]; exact h x hx
theorem clo_nil {l : List Int} (hg : grpB l = true) : IsClo l (prefN []) 1 where
  lt := (cloInv_one hg 0).lt
  keeps := ⟨rfl, fun x y hx _ => by rw [show prefN [] = 0 from rfl, Nat.zero_testBit] at hx; cases hx⟩
  least := (cloInv_one hg _).least
theorem shift_back {l : List Int} (hg : grpB l = true) {s : Nat} (hs : s < 2 ^ (prodI l).toNat) {k u : Nat} (hu : negN l (k : Int) = (u : Int)) : movN l (movN l s u) k = s := by
  have hO := ords_grp hg
  rw [movN_two hg (grp_pow hg hs), ← hu, addN_comm, addN_neg hO]
  exact movN_zero hg hs
/-- A set is a coset where its hull is it. -/
theorem cos_hull {l : List Int} {s k u c : Nat} (hs : isS l (s : Int) = true) (h0 : s ≠ 0) (hk : lowN s = k) (hu : negN l (k : Int) = (u : Int)) (hc : IsClo l (movN l s u) c) : cosB l (s : Int) = ((movN l c k : Nat) == s) := by
  obtain ⟨hg, s', e, h1, h24⟩ := isS_true hs
  have e' : s = s' := by omega
  subst e'
  have hv := movN_lt hg s u
  have h3 := sgB_clo (isS_of hg hv) hc
  unfold cosB
  rw [hs, Int.toNat_natCast, hk, hu, Int.toNat_natCast, h3]
  have hp : decide ((0 : Int) < (s : Int)) = true := by simp; omega
  rw [hp, Bool.true_and, Bool.true_and]
  have hb := shift_back hg h1 hu
  rw [Bool.eq_iff_iff]
  simp only [beq_iff_eq]
  constructor
  · intro e
    have : c = movN l s u := by omega
    rw [this]; exact hb
  · intro e
    have := shift_inj hg hc.lt hv (e.trans hb.symm)
    rw [this]
/-- The coset of an element is the one that holds it. -/
theorem coset_same {l : List Int} (hg : grpB l = true) {h x y : Nat} (hs : IsSg l h) (hy : (y : Int) < prodI l) (hb : (movN l h y).testBit x = true) : movN l h y = movN l h x := by
  have hO := ords_grp hg
  have h24 := grp_pow hg hs.1
  obtain ⟨u, hu, e⟩ := (movN_bit l h24 y x).1 hb
  have ex : (x : Int) = addN l (u : Int) (y : Int) := by rw [← e, nat_add hO]
  obtain ⟨v, hv, _⟩ := neg_nat hg (u : Int)
  -- the negative of an element of h lies in h
  have hneg : h.testBit v = true := by
    obtain ⟨m, m1, m2, m3, _⟩ := isOrd_ex hO (u : Int)
    have key : ∀ j, h.testBit (multN l u j) = true := by
      intro j
      induction j with
      | zero => rw [multN_zero]; exact hs.2.1
      | succ j ih => rw [← multN_succ hg]; exact hs.2.2 u _ hu ih
    have e1 : mulN l (u : Int) ((m - 1 : Nat) : Int) = negN l (u : Int) := by
      have h2 := mulN_succ hO (u : Int) ((m - 1 : Nat) : Int)
      rw [show (((m - 1 : Nat) : Int) + 1) = (m : Int) by omega, m3] at h2
      have hb1 := mulN_bnd hO (u : Int) ((m - 1 : Nat) : Int)
      have hb2 := negN_in hO (u : Int)
      have h3 : addN l (negN l (u : Int)) (u : Int) = 0 := by rw [addN_comm]; exact addN_neg hO _
      exact add_inj hO hb1.1 hb1.2 hb2.1 hb2.2 (h2.trans h3.symm)
    have := key (m - 1)
    unfold multN at this
    rw [e1, hv, Int.toNat_natCast] at this
    exact this
  refine bits_same fun z => ?_
  rw [movN_bit l h24, movN_bit l h24]
  constructor
  · rintro ⟨w, hw, ez⟩
    refine ⟨(addN l (w : Int) (v : Int)).toNat, hs.2.2 v w hneg hw, ?_⟩
    rw [nat_add hO, ex, addN_assoc hO, ← addN_assoc hO (v : Int), ← hv, addN_comm l (negN l (u : Int)), addN_neg hO, addN_comm l 0, addN_zero hO (by omega) hy, ez]
  · rintro ⟨w, hw, ez⟩
    refine ⟨(addN l (w : Int) (u : Int)).toNat, hs.2.2 u w hu hw, ?_⟩
    rw [nat_add hO, addN_assoc hO, ← ex, ez]
theorem coset_holds {l : List Int} (hg : grpB l = true) {h x : Nat} (hs : IsSg l h) (hx : (x : Int) < prodI l) : (movN l h x).testBit x = true :=
  (movN_bit l (grp_pow hg hs.1) x x).2 ⟨0, hs.2.1, zero_add' hg hx⟩
end Go.Proofs.YtehdneppleifdaaGreatDoor

namespace Go.Proofs.YtehdneppleifdaaGreatDoor
/-- The elements of s whose first j places are 0. -/
def Hd (l : List Int) (s j u : Nat) : Prop := s.testBit u = true ∧ ∀ i, i < j → i < l.length → dig l (u : Int) i = 0
theorem sg_mult {l : List Int} (hg : grpB l = true) {s u : Nat} (hs : IsSg l s) (hu : s.testBit u = true) : ∀ k, s.testBit (multN l u k) = true
  | 0 => by rw [multN_zero]; exact hs.2.1
  | k + 1 => by rw [← multN_succ hg]; exact hs.2.2 u _ hu (sg_mult hg hs hu k)
theorem multN_dig {l : List Int} (hg : grpB l = true) (u k : Nat) {j : Nat} (hj : j < l.length) : dig l (multN l u k : Nat) j = dig l (u : Int) j * (k : Int) % l.getD j 0 := by
  rw [multN_nat hg, mulN_dig (ords_grp hg) _ _ hj]; rfl
/-- The negative of a multiple is a multiple. -/
theorem mult_neg {l : List Int} (hg : grpB l = true) (u : Nat) (k : Nat) : ∃ m : Nat, addN l (multN l u k : Nat) (multN l u m : Nat) = 0 := by
  have hO := ords_grp hg
  obtain ⟨m, m1, m2, m3, _⟩ := isOrd_ex hO (u : Int)
  have hadd := multN_add hg u
  have hzero : ∀ a : Nat, multN l u (m * a) = 0 := by
    intro a
    induction a with
    | zero => rw [Nat.mul_zero, multN_zero]
    | succ a ih =>
      have e : ((multN l u (m * a + m) : Nat) : Int) = 0 := by
        rw [← hadd, ih, show multN l u m = 0 by unfold multN; rw [m3]; rfl, show (((0 : Nat) : Nat) : Int) = 0 from rfl]
        exact addN_zero hO (by omega) (by have := hO.prod.1; omega)
      rw [Nat.mul_succ]; omega
  refine ⟨k * (m - 1), ?_⟩
  rw [hadd, show k + k * (m - 1) = m * k by
    obtain ⟨t, rfl⟩ : ∃ t, m = t + 1 := ⟨m - 1, by omega⟩
    rw [Nat.add_sub_cancel, Nat.mul_comm k t, Nat.succ_mul, Nat.add_comm], hzero]; rfl
theorem hd_end {l : List Int} (hg : grpB l = true) {s u j : Nat} (hs : IsSg l s) (hj : l.length ≤ j) (h : Hd l s j u) : u = 0 := by
  have hO := ords_grp hg
  have h1 := val_dig hO (x := (u : Int)) (by omega) (el_of hg hs.1 h.1)
  have h2 : valK l (dig l (u : Int)) l.length = valK l (fun _ => 0) l.length := val_congr l _ _ _ fun i hi => h.2 i (by omega) hi
  have h3 : ∀ k, valK l (fun _ => 0) k = 0 := by
    intro k; induction k with
    | zero => rfl
    | succ k ih => simp [valK, ih]
  rw [h2, h3] at h1
  omega
theorem hd_step {l : List Int} (hg : grpB l = true) {s : Nat} (hs : IsSg l s) (j : Nat) : ∃ h, Hd l s j h ∧ ∀ u, Hd l s j u → ∃ k v, Hd l s (j + 1) v ∧ (u : Int) = addN l (v : Int) (multN l h k : Nat) := by
  have hO := ords_grp hg
  have hz : Hd l s j 0 := ⟨hs.2.1, fun i _ _ => dig_zero0 l i⟩
  have triv : (∀ u, Hd l s j u → Hd l s (j + 1) u) → ∃ h, Hd l s j h ∧ ∀ u, Hd l s j u → ∃ k v, Hd l s (j + 1) v ∧ (u : Int) = addN l (v : Int) (multN l h k : Nat) := fun hup =>
    ⟨0, hz, fun u hu => ⟨0, u, hup u hu, by rw [multN_zero, show (((0 : Nat) : Nat) : Int) = 0 from rfl, addN_zero hO (by omega) (el_of hg hs.1 hu.1)]⟩⟩
  by_cases hj : j < l.length
  · by_cases hp : ∃ d : Nat, 0 < d ∧ ∃ u, Hd l s j u ∧ dig l (u : Int) j = (d : Int)
    · obtain ⟨d, d0, ⟨h, hh, hd⟩, hmin⟩ := least_pos _ hp
      refine ⟨h, hh, fun u hu => ?_⟩
      have hb := dig_bnd hg (u : Int) hj
      have hbh := dig_bnd hg (h : Int) hj
      obtain ⟨D, hD⟩ : ∃ D : Nat, dig l (u : Int) j = (D : Int) := ⟨(dig l (u : Int) j).toNat, by omega⟩
      -- u less D / d of h
      obtain ⟨m, hm⟩ := mult_neg hg h (D / d)
      have hv : s.testBit (addN l (u : Int) (multN l h m : Nat)).toNat = true := hs.2.2 _ u (sg_mult hg hs hh.1 m) hu.1
      obtain ⟨v, hve⟩ : ∃ v, (addN l (u : Int) (multN l h m : Nat)).toNat = v := ⟨_, rfl⟩
      have hvi : (v : Int) = addN l (u : Int) (multN l h m : Nat) := by rw [← hve, nat_add hO]
      rw [hve] at hv
      have hback : (u : Int) = addN l (v : Int) (multN l h (D / d) : Nat) := by
        rw [hvi, addN_assoc hO, addN_comm l (multN l h m : Nat), hm, addN_zero hO (by omega) (el_of hg hs.1 hu.1)]
      have hlow : ∀ i, i < j → i < l.length → dig l (v : Int) i = 0 := fun i hi hil => by
        rw [hvi, addN_dig hO _ _ hil, hu.2 i hi hil, multN_dig hg _ _ hil, hh.2 i hi hil]; simp
      have hvj : dig l (v : Int) j = ((D % d : Nat) : Int) := by
        -- both are the remainder below the order
        have e1 : dig l (u : Int) j = (dig l (v : Int) j + dig l (multN l h (D / d) : Nat) j) % l.getD j 0 := by
          rw [← addN_dig hO _ _ hj, ← hback]
        rw [multN_dig hg _ _ hj, hd, hD, Int.add_emod_emod] at e1
        have hvb := dig_bnd hg (v : Int) hj
        obtain ⟨V, hV⟩ : ∃ V : Nat, dig l (v : Int) j = (V : Int) := ⟨(dig l (v : Int) j).toNat, by omega⟩
        obtain ⟨M, hM⟩ : ∃ M : Nat, l.getD j 0 = (M : Int) := ⟨(l.getD j 0).toNat, by omega⟩
        rw [hV, hM] at e1
        rw [hV, hM] at hvb
        rw [hD, hM] at hb
        rw [hV]
        have e2 : D = (V + d * (D / d)) % M := by
          have : ((D : Nat) : Int) = (((V + d * (D / d)) % M : Nat) : Int) := by
            rw [Int.natCast_emod, Int.natCast_add, Int.natCast_mul]; exact e1
          omega
        have e3 := Nat.div_add_mod D d
        have e4 : D % d < d := Nat.mod_lt _ d0
        generalize d * (D / d) = Q at *
        have hDM : D < M := by omega
        have hVM : V < M := by omega
        rcases Nat.lt_or_ge (V + Q) M with h9 | h9
        · rw [Nat.mod_eq_of_lt h9] at e2; omega
        · rw [Nat.mod_eq_sub_mod h9, Nat.mod_eq_of_lt (by omega)] at e2; omega
      refine ⟨D / d, v, ⟨hv, fun i hi hil => ?_⟩, hback⟩
      by_cases hij : i < j
      · exact hlow i hij hil
      · obtain rfl : i = j := by omega
        rw [hvj]
        by_cases h0 : D % d = 0
        · rw [h0]; rfl
        · exact absurd ⟨v, ⟨hv, hlow⟩, hvj⟩ (hmin (D % d) (by omega) (Nat.mod_lt _ d0))
    · refine triv fun u hu => ⟨hu.1, fun i hi hil => ?_⟩
      by_cases hij : i < j
      · exact hu.2 i hij hil
      · obtain rfl : i = j := by omega
        have hb := dig_bnd hg (u : Int) hj
        by_cases h0 : dig l (u : Int) i = 0
        · exact h0
        · exact absurd ⟨(dig l (u : Int) i).toNat, by omega, u, hu, by omega⟩ hp
  · refine triv fun u hu => ⟨hu.1, fun i hi hil => hu.2 i (by omega) hil⟩
/-- Three generators. -/
theorem gen3 {l : List Int} (hg : grpB l = true) {s : Nat} (hs : IsSg l s) : ∃ x y z, s.testBit x = true ∧ s.testBit y = true ∧ s.testBit z = true ∧
    ∀ u, s.testBit u = true → ∃ i j k : Nat, (u : Int) = addN l (addN l (multN l z k : Nat) (multN l y j : Nat)) (multN l x i : Nat) := by
  have hO := ords_grp hg
  obtain ⟨x, hx, h1⟩ := hd_step hg hs 0
  obtain ⟨y, hy, h2⟩ := hd_step hg hs 1
  obtain ⟨z, hz, h3⟩ := hd_step hg hs 2
  refine ⟨x, y, z, hx.1, hy.1, hz.1, fun u hu => ?_⟩
  obtain ⟨i, v, hv, e1⟩ := h1 u ⟨hu, fun i hi => absurd hi (by omega)⟩
  obtain ⟨j, t, ht, e2⟩ := h2 v hv
  obtain ⟨k, r, hr, e3⟩ := h3 t ht
  obtain rfl := hd_end hg hs (j := 2 + 1) (by have := (grpB_true hg).1; omega) hr
  refine ⟨i, j, k, ?_⟩
  rw [e1, e2, e3, addN_comm l (((0 : Nat) : Nat) : Int), show (((0 : Nat) : Nat) : Int) = 0 from rfl]
  rw [addN_zero hO (by omega) (by rw [multN_nat hg]; exact (mulN_bnd hO _ _).2)]
/-- What one element generates. -/
def cycN (l : List Int) (x : Nat) : Nat := extK l 1 x 24
theorem sg_one {l : List Int} (hg : grpB l = true) : IsClo l 0 1 := by
  have := clo_nil hg
  exact this
/-- What is generated holds the multiples of what generates, and no more, of one element. -/
theorem clo_cyc {l : List Int} (hg : grpB l = true) {x c : Nat} (hx : (x : Int) < prodI l) (hc : IsClo l (2 ^ x) c) (k : Nat) : c.testBit (multN l x k) = true := by
  have hlt : 2 ^ x < 2 ^ (prodI l).toNat := Nat.pow_lt_pow_right (by decide) (by have := (ords_grp hg).prod.1; omega)
  exact sg_mult hg (hc.sg hg) (hc.holds hg hlt x (by rw [Nat.testBit_two_pow]; simp)) k
theorem clo_in {l : List Int} {x c s : Nat} (hs : IsSg l s) (hx : s.testBit x = true) (hc : IsClo l (2 ^ x) c) : Part c s :=
  hc.least s ⟨hs.2.1, fun u y hu hy => by
    rw [Nat.testBit_two_pow, decide_eq_true_eq] at hu
    subst hu
    exact hs.2.2 _ y hx hy⟩
/-- The sum of subgroups is a subgroup. -/
theorem sum_sg {l : List Int} (hg : grpB l = true) {s t : Nat} (hs : IsSg l s) (ht : IsSg l t) : IsSg l (sumN l s t) := by
  have hO := ords_grp hg
  have hs24 := grp_pow hg hs.1
  have ht24 := grp_pow hg ht.1
  refine ⟨sumN_lt hg s t, (sumN_bit l hs24 ht24 0).2 ⟨0, 0, ht.2.1, hs.2.1, ?_⟩, fun u v hu hv => ?_⟩
  · rw [show (((0 : Nat) : Nat) : Int) = 0 from rfl, addN_zero hO (by omega) (by have := hO.prod.1; omega)]; rfl
  · obtain ⟨a, b, ha, hb, e1⟩ := (sumN_bit l hs24 ht24 u).1 hu
    obtain ⟨c, d, hc, hd, e2⟩ := (sumN_bit l hs24 ht24 v).1 hv
    refine (sumN_bit l hs24 ht24 _).2 ⟨(addN l (c : Int) (a : Int)).toNat, (addN l (d : Int) (b : Int)).toNat, ht.2.2 a c ha hc, hs.2.2 b d hb hd, ?_⟩
    rw [← e1, ← e2, nat_add hO, nat_add hO, nat_add hO, nat_add hO]
    -- (d + b) + (c + a) = (d + c) + (b + a)
    rw [addN_assoc hO, addN_assoc hO, ← addN_assoc hO (b : Int) (c : Int), ← addN_assoc hO (c : Int) (b : Int), addN_comm l (b : Int) (c : Int)]
theorem sum_in {l : List Int} {s t r : Nat} (hr : IsSg l r) (hs : s < 2 ^ 24) (ht : t < 2 ^ 24) (h1 : Part s r) (h2 : Part t r) : Part (sumN l s t) r := fun k hk => by
  obtain ⟨a, b, ha, hb, e⟩ := (sumN_bit l hs ht k).1 hk
  rw [← e]; exact hr.2.2 a b (h2 a ha) (h1 b hb)
/-- Every subgroup is a sum of three that one element generates each. -/
theorem sum3 {l : List Int} (hg : grpB l = true) {s : Nat} (hs : IsSg l s) : ∃ x y z a b c : Nat, (x : Int) < prodI l ∧ (y : Int) < prodI l ∧ (z : Int) < prodI l ∧ IsClo l (2 ^ x) a ∧ IsClo l (2 ^ y) b ∧ IsClo l (2 ^ z) c ∧
    sumN l (sumN l a b) c = s := by
  have hO := ords_grp hg
  obtain ⟨x, y, z, hx, hy, hz, hall⟩ := gen3 hg hs
  have p24 : ∀ {x : Nat}, s.testBit x = true → 2 ^ x < 2 ^ 24 := fun {x} h => by
    have h1 := el_of hg hs.1 h
    exact Nat.pow_lt_pow_right (by decide) (by have := hO.prod.2; omega)
  obtain ⟨a, ha⟩ := clo_ex hg (p24 hx)
  obtain ⟨b, hb⟩ := clo_ex hg (p24 hy)
  obtain ⟨c, hc⟩ := clo_ex hg (p24 hz)
  refine ⟨x, y, z, a, b, c, el_of hg hs.1 hx, el_of hg hs.1 hy, el_of hg hs.1 hz, ha, hb, hc, ?_⟩
  have a24 := grp_pow hg ha.lt
  have b24 := grp_pow hg hb.lt
  have c24 := grp_pow hg hc.lt
  have ab24 := grp_pow hg (sumN_lt hg a b)
  refine Part.same (sum_in hs ab24 c24 (sum_in hs a24 b24 (clo_in hs hx ha) (clo_in hs hy hb)) (clo_in hs hz hc)) fun u hu => ?_
  obtain ⟨i, j, k, e⟩ := hall u hu
  have e1 : u = (addN l ((addN l (multN l x i : Nat) (multN l y j : Nat)).toNat : Nat) (multN l z k : Nat)).toNat := by
    rw [nat_add hO, addN_comm l _ (multN l z k : Nat), addN_comm l (multN l x i : Nat), ← addN_assoc hO, ← e]; rfl
  rw [e1]
  exact (sumN_bit l ab24 c24 _).2 ⟨multN l z k, _, clo_cyc hg (el_of hg hs.1 hz) hc k, (sumN_bit l a24 b24 _).2 ⟨multN l y j, multN l x i, clo_cyc hg (el_of hg hs.1 hy) hb j, clo_cyc hg (el_of hg hs.1 hx) ha i, rfl⟩, rfl⟩
end Go.Proofs.YtehdneppleifdaaGreatDoor
