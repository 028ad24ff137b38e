/- The facts of the law on energies: bounds of quadruples, popular sums as parts of each other, the sum of a product of tables. -/
import Derived.Test.YthlpjiibjlaebaaDoorConMath
import Derived.Test.YthlpjiibjlaebaaDoorMGAH
import Derived.Test.YthlpjiibjlaebaaDoorSetSpec
namespace Go.Proofs.YthlpjiibjlaebaaDoor
theorem qua_yes {l : List Int} {a : Int} (h : 0 ≤ quaE l a) : 0 ≤ cntE l a ∧ cntE l a ≤ 24 ∧ cntE l a * cntE l a ≤ quaE l a ∧ quaE l a ≤ cntE l a * cntE l a * cntE l a ∧ 0 ≤ cntE l a * cntE l a ∧ cntE l a * cntE l a ≤ 576 ∧ 0 ≤ cntE l a * cntE l a * cntE l a ∧ cntE l a * cntE l a * cntE l a ≤ 13824 := by
  cases hs : isS l a with
  | false =>
    unfold quaE at h
    rw [hs, if_neg (by simp)] at h
    omega
  | true =>
    have e1 : quaE l a = quaN l a.toNat := by unfold quaE; rw [hs]; rfl
    have e2 : cntE l a = ((bitsN a.toNat).length : Int) := by unfold cntE; rw [hs]; rfl
    obtain ⟨hg, s, rfl, hsn, _⟩ := isS_true hs
    rw [e1, e2, Int.toNat_natCast]
    have h1 := qua_lo hg hsn
    have h2 := qua_up l s
    have h3 := bits_le s
    obtain ⟨k, hk⟩ : ∃ k, (bitsN s).length = k := ⟨_, rfl⟩
    rw [hk] at h1 h2 h3 ⊢
    have h4 : (0 : Int) ≤ (k : Int) * (k : Int) := Int.mul_nonneg (by omega) (by omega)
    have h5 : (k : Int) * (k : Int) ≤ 24 * 24 := Int.mul_le_mul (by omega) (by omega) (by omega) (by decide)
    have h6 : (0 : Int) ≤ (k : Int) * (k : Int) * (k : Int) := Int.mul_nonneg h4 (by omega)
    have h7 : (k : Int) * (k : Int) * (k : Int) ≤ 24 * 24 * 24 := Int.mul_le_mul h5 (by omega) (by omega) (by decide)
    rw [← Int.mul_assoc] at h2
    exact ⟨by omega, by omega, h1, h2, h4, by omega, h6, by omega⟩
theorem pop_form {l : List Int} {a b t : Int} (h : 0 ≤ popE l a b t) : two l a b = true ∧ popE l a b t = ((selK (fun i => decide (t ≤ (tabN l a.toNat b.toNat).getD i 0)) (prodI l).toNat : Nat) : Int) := by
  cases hp : popB l a b t with
  | false =>
    unfold popE at h
    rw [hp, if_neg (by simp)] at h
    omega
  | true =>
    refine ⟨by unfold popB at hp; exact (Bool.and_eq_true_iff.1 hp).1, ?_⟩
    unfold popE
    rw [hp]
    rfl
theorem two_grp {l : List Int} {a b : Int} (h : two l a b = true) : grpB l = true := by
  unfold two at h; rw [Bool.and_eq_true] at h; exact (isS_true h.1).1
/-- With a larger number there are fewer popular sums. -/
theorem pop_and {l : List Int} {a b t : Int} (hp : 0 ≤ popE l a b t) (hq : 0 ≤ popE l a b (t + 1)) : bits .and .i64 (popE l a b (t + 1)) (popE l a b t) = popE l a b (t + 1) := by
  obtain ⟨h2, e1⟩ := pop_form hp
  obtain ⟨_, e2⟩ := pop_form hq
  rw [e1, e2]
  have hpr := (ords_grp (two_grp h2)).prod
  have b1 := selK_lt24 (fun i => decide (t ≤ (tabN l a.toNat b.toNat).getD i 0)) (k := (prodI l).toNat) (by omega)
  have b2 := selK_lt24 (fun i => decide (t + 1 ≤ (tabN l a.toNat b.toNat).getD i 0)) (k := (prodI l).toNat) (by omega)
  have hsub : selK (fun i => decide (t + 1 ≤ (tabN l a.toNat b.toNat).getD i 0)) (prodI l).toNat &&& selK (fun i => decide (t ≤ (tabN l a.toNat b.toNat).getD i 0)) (prodI l).toNat = selK (fun i => decide (t + 1 ≤ (tabN l a.toNat b.toNat).getD i 0)) (prodI l).toNat := by
    apply Nat.eq_of_testBit_eq
    intro j
    rw [Nat.testBit_and]
    cases hj : (selK (fun i => decide (t + 1 ≤ (tabN l a.toNat b.toNat).getD i 0)) (prodI l).toNat).testBit j with
    | false => rfl
    | true =>
      obtain ⟨h3, h4⟩ := (selK_bit _ _ _).1 hj
      have h5 := of_decide_eq_true h4
      rw [(selK_bit _ _ _).2 ⟨h3, decide_eq_true (by omega)⟩]
      rfl
  generalize selK (fun i => decide (t + 1 ≤ (tabN l a.toNat b.toNat).getD i 0)) (prodI l).toNat = A at *
  generalize selK (fun i => decide (t ≤ (tabN l a.toNat b.toNat).getD i 0)) (prodI l).toNat = C at *
  rw [andI A C (by omega) (by omega), hsub]
theorem par_pos (l : List Int) (M : List Nat) (z : Nat) : ∀ L : List Nat, 0 < parN l L M z ↔ ∃ u ∈ L, ∃ v ∈ M, (addN l (u : Int) (v : Int)).toNat = z
  | [] => by simp [parN]
  | u :: t => by
    have e : parN l (u :: t) M z = hitN l M u z + parN l t M z := by simp [parN]
    have ih := par_pos l M z t
    have hh : 0 < hitN l M u z ↔ ∃ v ∈ M, (addN l (u : Int) (v : Int)).toNat = z := by
      unfold hitN
      rw [List.countP_pos_iff]
      simp
    rw [e]
    constructor
    · intro h
      rcases Nat.eq_zero_or_pos (hitN l M u z) with h0 | h0
      · obtain ⟨u', hu, hv⟩ := ih.1 (by omega)
        exact ⟨u', by simp [hu], hv⟩
      · exact ⟨u, by simp, hh.1 h0⟩
    · rintro ⟨u', hu, hv⟩
      rcases List.mem_cons.1 hu with rfl | hu
      · have := hh.2 hv; omega
      · have := ih.2 ⟨u', hu, hv⟩; omega
/-- What is the sum of one pair at least is the set of sums. -/
theorem pop_one {l : List Int} {a b : Int} (h : 0 ≤ popE l a b 1) : popE l a b 1 = sumE l a b := by
  obtain ⟨h2, e1⟩ := pop_form h
  have hg := two_grp h2
  have hpr := (ords_grp hg).prod
  have hs : sumE l a b = ((sumN l a.toNat b.toNat : Nat) : Int) := by unfold sumE; rw [if_pos h2]
  have h3 := h2
  unfold two at h3
  rw [Bool.and_eq_true] at h3
  obtain ⟨_, s, rfl, hsn, hs24⟩ := isS_true h3.1
  obtain ⟨_, t, rfl, htn, ht24⟩ := isS_true h3.2
  rw [e1, hs]
  simp only [Int.toNat_natCast]
  congr 1
  apply Nat.eq_of_testBit_eq
  intro z
  apply Bool.eq_iff_iff.2
  rw [selK_bit, sumN_bit l hs24 ht24]
  constructor
  · rintro ⟨hz, hp⟩
    have h5 := of_decide_eq_true hp
    rw [tabN_at l s t hz] at h5
    obtain ⟨u, hu, v, hv, e⟩ := (par_pos l (bitsN t) z (bitsN s)).1 (by omega)
    exact ⟨v, u, (mem_bits ht24 v).1 hv, (mem_bits hs24 u).1 hu, e⟩
  · rintro ⟨v, u, hv, hu, e⟩
    have hb := addN_in (ords_grp hg) (u : Int) (v : Int)
    have hz : z < (prodI l).toNat := by omega
    refine ⟨hz, decide_eq_true ?_⟩
    rw [tabN_at l s t hz]
    have := (par_pos l (bitsN t) z (bitsN s)).2 ⟨u, (mem_bits hs24 u).2 hu, v, (mem_bits ht24 v).2 hv, e⟩
    omega
theorem accN_sum : ∀ (L : List Int), accN (fun i => L.getD i 0) L.length = L.sum := by
  have h : ∀ (L : List Int) k, k ≤ L.length → accN (fun i => L.getD i 0) k = (L.take k).sum := by
    intro L k
    induction k with
    | zero => intro _; simp [accN]
    | succ k ih =>
      intro hk
      simp only [accN]
      rw [ih (by omega), List.take_add_one, List.getElem?_eq_getElem (by omega), List.sum_append]
      simp [List.getD, List.getElem?_eq_getElem (show k < L.length by omega)]
  intro L
  rw [h L _ (Nat.le_refl _), List.take_length]
theorem cnv_tot (l p q : List Int) : (cvE l p q).length ≤ 24 ∧ (0 < (cvE l p q).length → p.length ≤ 24 ∧ q.length ≤ 24 ∧ (∀ x ∈ p, -100000000000 ≤ x ∧ x ≤ 100000000000) ∧ (∀ x ∈ q, -100000000000 ≤ x ∧ x ≤ 100000000000) ∧ (∀ x ∈ cvE l p q, -100000000000 ≤ x ∧ x ≤ 100000000000) ∧ (cvE l p q).sum = p.sum * q.sum ∧ -100000000000 ≤ p.sum * q.sum ∧ p.sum * q.sum ≤ 100000000000) := by
  refine ⟨cvE_len l p q, fun hpos => ?_⟩
  cases hb : cvB l p q with
  | false =>
    rw [show cvE l p q = [] by unfold cvE; rw [hb]; rfl] at hpos
    simp at hpos
  | true =>
    have hp : tbB l p = true := by unfold cvB at hb; exact (Bool.and_eq_true_iff.1 hb).1
    have hq : tbB l q = true := by unfold cvB at hb; exact (Bool.and_eq_true_iff.1 hb).2
    obtain ⟨bp, hg, lp⟩ := tbB_yes hp
    obtain ⟨bq, _, lq⟩ := tbB_yes hq
    have hpr := (ords_grp hg).prod
    have hlen : p.length = (prodI l).toNat := by omega
    have hlq : q.length = (prodI l).toNat := by omega
    have e : cvE l p q = zrow (cvO l p q p.length p.length) p.length := by unfold cvE; rw [if_pos hb]
    have hsum : (cvE l p q).sum = p.sum * q.sum := by
      have h1 := cvO_sum (p := p) (q := q) (ords_grp hg) p.length p.length
      have h2 : (cvE l p q).sum = accN (cvO l p q p.length p.length) p.length := by
        rw [← accN_sum, e, zrow_len]
        exact accN_congr (fun i hi => zrow_at _ _ _ hi)
      rw [h2]
      rw [← hlen] at h1
      rw [h1, accN_sum p]
      rw [show accN (fun j => q.getD j 0) p.length = q.sum by rw [← accN_sum q, hlq, hlen]]
    have hbd := cvO_bnd (l := l) bp bq (N := p.length) (by omega) (by omega) p.length (Nat.le_refl _)
    have bps : -240000 ≤ p.sum ∧ p.sum ≤ 240000 := by
      have h := accN_bnd (f := fun i => p.getD i 0) (n := p.length) (a := -10000) (b := 10000) (fun i hi => bp i hi)
      rw [accN_sum] at h
      have : (p.length : Int) ≤ 24 := by omega
      omega
    have bqs : -240000 ≤ q.sum ∧ q.sum ≤ 240000 := by
      have h := accN_bnd (f := fun i => q.getD i 0) (n := q.length) (a := -10000) (b := 10000) (fun i hi => bq i hi)
      rw [accN_sum] at h
      have : (q.length : Int) ≤ 24 := by omega
      omega
    have bpr : -57600000000 ≤ p.sum * q.sum ∧ p.sum * q.sum ≤ 57600000000 := by
      have h : (p.sum * q.sum).natAbs ≤ 240000 * 240000 := by
        rw [Int.natAbs_mul]
        exact Nat.mul_le_mul (by omega) (by omega)
      omega
    refine ⟨by omega, by omega, fun x hx => ?_, fun x hx => ?_, fun x hx => ?_, hsum, by omega, by omega⟩
    · obtain ⟨k, hk, rfl⟩ := List.getElem_of_mem hx
      have := bp k hk
      have h3 : p.getD k 0 = p[k] := by simp [List.getD, hk]
      rw [h3] at this
      omega
    · obtain ⟨k, hk, rfl⟩ := List.getElem_of_mem hx
      have := bq k hk
      have h3 : q.getD k 0 = q[k] := by simp [List.getD, hk]
      rw [h3] at this
      omega
    · rw [e] at hx
      unfold zrow at hx
      rw [List.mem_map] at hx
      obtain ⟨z, _, rfl⟩ := hx
      have := hbd z
      omega
end Go.Proofs.YthlpjiibjlaebaaDoor
