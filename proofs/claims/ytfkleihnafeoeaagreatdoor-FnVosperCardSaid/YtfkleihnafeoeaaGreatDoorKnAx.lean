/- Chapter 9 as numbers: the bound of Kneser, of Cauchy, of Chowla; what the laws ask of them, from the plain theorems. -/
import Derived.Test.YtfkleihnafeoeaaGreatDoorKnEn
import Derived.Test.YtfkleihnafeoeaaGreatDoorPerDef
import Derived.Test.YtfkleihnafeoeaaGreatDoorEnMath
import Derived.Test.YtfkleihnafeoeaaGreatDoorGrpMath2
namespace Go.Proofs.YtfkleihnafeoeaaGreatDoor
/-- The group's sum of two element numbers. -/
def adN (l : List Int) (x y : Nat) : Nat := (addN l (x : Int) (y : Int)).toNat
def nnN (l : List Int) (x : Nat) : Nat := (negN l (x : Int)).toNat
theorem abel_grp {l : List Int} (hg : grpB l = true) : Abel (prodI l).toNat (adN l) (nnN l) := by
  have ho := ords_grp hg
  have hp := ho.prod
  refine ⟨by omega, fun x y => ?_, fun x => ?_, fun x y => ?_, fun x y z => ?_, fun x hx => ?_, fun x => ?_⟩
  · have := addN_in ho (x : Int) (y : Int); unfold adN; omega
  · have := negN_in ho (x : Int); unfold nnN; omega
  · unfold adN; rw [addN_comm]
  · unfold adN; rw [nat_add ho, nat_add ho, addN_assoc ho]
  · unfold adN
    have h := addN_zero ho (x := (x : Int)) (by omega) (by omega)
    rw [show (((0 : Nat)) : Int) = 0 from rfl, h]
    omega
  · unfold adN nnN
    rw [nat_neg ho, addN_neg ho]
    rfl
theorem sm_acc (f : Nat → Nat) : ∀ n, ((sm f n : Nat) : Int) = accN (fun i => (f i : Int)) n
  | 0 => rfl
  | n + 1 => by
    simp only [sm, accN]
    rw [← sm_acc f n]
    omega
theorem cd_bits {n m : Nat} (hm : m < 2 ^ n) (hn : n ≤ 24) : cd n (fun i => m.testBit i) = (bitsN m).length := by
  have h := bits_acc hm hn
  have h2 := sm_acc (fun i => (m.testBit i).toNat) n
  have e : accN (fun i => (((m.testBit i).toNat : Nat) : Int)) n = accN (bitI m) n := accN_congr (fun i _ => by
    unfold bitI
    cases m.testBit i <;> rfl)
  show sm (fun i => (m.testBit i).toNat) n = _
  omega
theorem isSum_N {l : List Int} (hg : grpB l = true) {a b : Nat} (ha : a < 2 ^ (prodI l).toNat) (hb : b < 2 ^ (prodI l).toNat) :
    IsSum (prodI l).toNat (adN l) (fun i => a.testBit i) (fun i => b.testBit i) (fun i => (sumN l a b).testBit i) := fun z _ => by
  show (sumN l a b).testBit z = true ↔ _
  rw [sumN_bit l (grp_pow hg ha) (grp_pow hg hb)]
  constructor
  · rintro ⟨x, y, hx, hy, e⟩
    have h1 := el_of hg hb hx
    have h2 := el_of hg ha hy
    exact ⟨y, x, by omega, by omega, hy, hx, e⟩
  · rintro ⟨x, y, _, _, hx, hy, e⟩
    exact ⟨y, x, hy, hx, e⟩
theorem stb_N {l : List Int} (hg : grpB l = true) {s : Nat} (hs : s < 2 ^ (prodI l).toNat) {x : Nat} (hx : x < (prodI l).toNat) :
    stb (prodI l).toNat (adN l) (fun i => s.testBit i) x = (stN l s).testBit x := by
  have G := abel_grp hg
  apply Bool.eq_iff_iff.2
  rw [stb_iff]
  unfold stN
  rw [stK_bit]
  constructor
  · intro h
    refine ⟨hx, bits_same (fun i => ?_)⟩
    rw [movN_bit l (grp_pow hg hs)]
    constructor
    · rintro ⟨y, hy, rfl⟩
      have := el_of hg hs hy
      have := h y (by omega)
      rw [hy] at this
      exact this
    · intro hi
      have hiN := el_of hg hs hi
      have e : adN l (adN l i (nnN l x)) x = i := ab_forth G x (by omega)
      have := h (adN l i (nnN l x)) (G.lt _ _)
      rw [e] at this
      exact ⟨adN l i (nnN l x), by rw [← this]; exact hi, e⟩
  · rintro ⟨_, h⟩ z hz
    apply Bool.eq_iff_iff.2
    have hb := movN_bit l (grp_pow hg hs) x (adN l z x)
    rw [h] at hb
    rw [hb]
    constructor
    · rintro ⟨y, hy, e⟩
      have hyN := el_of hg hs hy
      have hyN2 : y < (prodI l).toNat := by clear e h hb; omega
      have e2 : adN l y x = adN l z x := e
      have e3 : adN l (adN l y x) (nnN l x) = adN l (adN l z x) (nnN l x) := by rw [e2]
      rw [ab_back G x hyN2, ab_back G x hz] at e3
      rw [← e3]
      exact hy
    · intro h2
      exact ⟨z, h2, rfl⟩
theorem bit_ex {a : Nat} (h : a ≠ 0) : ∃ i, a.testBit i = true := by
  apply Classical.byContradiction
  intro hn
  apply h
  apply Nat.eq_of_testBit_eq
  intro i
  rw [Nat.zero_testBit]
  cases e : a.testBit i with
  | false => rfl
  | true => exact absurd ⟨i, e⟩ hn
theorem stN_lt {l : List Int} (s : Nat) : stN l s < 2 ^ (prodI l).toNat := stK_lt l s _
theorem isSum_fill {l : List Int} (hg : grpB l = true) {a s : Nat} (ha : a < 2 ^ (prodI l).toNat) (hs : s < 2 ^ (prodI l).toNat) :
    IsSum (prodI l).toNat (adN l) (fun i => a.testBit i) (stb (prodI l).toNat (adN l) (fun i => s.testBit i)) (fun i => (sumN l a (stN l s)).testBit i) := fun z hz => by
  rw [isSum_N hg ha (stN_lt s) z hz]
  constructor
  · rintro ⟨x, y, hx, hy, h1, h2, e⟩; exact ⟨x, y, hx, hy, h1, by rw [stb_N hg hs hy]; exact h2, e⟩
  · rintro ⟨x, y, hx, hy, h1, h2, e⟩; exact ⟨x, y, hx, hy, h1, by rw [stb_N hg hs hy] at h2; exact h2, e⟩
/-- Kneser's theorem, as numbers. -/
theorem kn_num {l : List Int} (hg : grpB l = true) {a b : Nat} (ha : a < 2 ^ (prodI l).toNat) (hb : b < 2 ^ (prodI l).toNat) (h0 : b ≠ 0) :
    (bitsN (sumN l a (stN l (sumN l a b)))).length + (bitsN (sumN l b (stN l (sumN l a b)))).length ≤ (bitsN (sumN l a b)).length + (bitsN (stN l (sumN l a b))).length := by
  have hp := (ords_grp hg).prod
  have G := abel_grp hg
  have hs := sumN_lt hg a b
  obtain ⟨i, hi⟩ := bit_ex h0
  have hiN := el_of hg hb hi
  have h := kneser G (isSum_N hg ha hb) (isSum_fill hg ha hs) (isSum_fill hg hb hs) (show i < _ by omega) hi
  rw [cd_bits (sumN_lt hg _ _) (by omega), cd_bits (sumN_lt hg _ _) (by omega), cd_bits hs (by omega), cd_congr (fun i hi => stb_N hg hs hi), cd_bits (stN_lt _) (by omega)] at h
  exact h
/-- A sum smaller than the sizes say has a stabilizer. -/
theorem kn_per {l : List Int} (hg : grpB l = true) {a b : Nat} (ha : a < 2 ^ (prodI l).toNat) (hb : b < 2 ^ (prodI l).toNat) (h0 : b ≠ 0) :
    (bitsN a).length + (bitsN b).length ≤ (bitsN (sumN l a b)).length + (bitsN (stN l (sumN l a b))).length := by
  have hp := (ords_grp hg).prod
  have G := abel_grp hg
  have hs := sumN_lt hg a b
  obtain ⟨i, hi⟩ := bit_ex h0
  have hiN := el_of hg hb hi
  have h := kn_first G (isSum_N hg ha hb) (show i < _ by omega) hi
  rw [cd_bits ha (by omega), cd_bits hb (by omega), cd_bits hs (by omega), cd_congr (fun i hi => stb_N hg hs hi), cd_bits (stN_lt _) (by omega)] at h
  exact h
/-- The filled sets have the same sum. -/
theorem kn_fill {l : List Int} (hg : grpB l = true) {a b : Nat} (ha : a < 2 ^ (prodI l).toNat) (hb : b < 2 ^ (prodI l).toNat) :
    sumN l (sumN l a (stN l (sumN l a b))) (sumN l b (stN l (sumN l a b))) = sumN l a b := by
  have G := abel_grp hg
  have hs := sumN_lt hg a b
  have h1 := isSum_N hg ha hb
  have h2 := isSum_fill hg ha hs
  have h3 := isSum_fill hg hb hs
  have h4 := isSum_N hg (sumN_lt hg a (stN l (sumN l a b))) (sumN_lt hg b (stN l (sumN l a b)))
  refine bits_same (fun z => ?_)
  constructor
  · intro hz
    have hzN := el_of hg (sumN_lt hg _ _) hz
    obtain ⟨x, y, hx, hy, hX, hY, e⟩ := (h4 z (by omega)).1 hz
    obtain ⟨x1, u, hx1, hu, hA1, su, rfl⟩ := (h2 x hx).1 hX
    obtain ⟨y1, v, hy1, hv, hB1, sv, rfl⟩ := (h3 y hy).1 hY
    have g1 : (sumN l a b).testBit (adN l x1 y1) = true := (h1 (adN l x1 y1) (G.lt _ _)).2 ⟨x1, y1, hx1, hy1, hA1, hB1, rfl⟩
    have g2 : (sumN l a b).testBit (adN l (adN l x1 y1) (adN l u v)) = (sumN l a b).testBit (adN l x1 y1) := stb_iff.1 (stb_add G su sv) (adN l x1 y1) (G.lt _ _)
    have e2 : adN l (adN l x1 y1) (adN l u v) = z := by
      rw [← e, G.assoc x1 y1, ← G.assoc y1 u v, G.comm y1 u, G.assoc u y1 v, ← G.assoc x1 u]
    rw [e2, g1] at g2
    exact g2
  · intro hz
    have hzN := el_of hg hs hz
    obtain ⟨x, y, hx, hy, hA, hB, e⟩ := (h1 z (by omega)).1 hz
    exact (h4 z (by omega)).2 ⟨x, y, hx, hy, (h2 x hx).2 ⟨x, 0, hx, G.pos, hA, stb_zero G _, G.zero x hx⟩, (h3 y hy).2 ⟨y, 0, hy, G.pos, hB, stb_zero G _, G.zero y hy⟩, e⟩
/-- Cauchy's bound, as numbers. -/
theorem cau_num {l : List Int} (hg : grpB l = true) {a b : Nat} (ha : a < 2 ^ (prodI l).toNat) (hb : b < 2 ^ (prodI l).toNat) (h1 : a ≠ 0) (h2 : b ≠ 0) {p : Nat} (hP : ∀ k, k ∣ (prodI l).toNat → 2 ≤ k → p ≤ k) :
    p ≤ (bitsN (sumN l a b)).length ∨ (bitsN a).length + (bitsN b).length ≤ (bitsN (sumN l a b)).length + 1 := by
  have hp := (ords_grp hg).prod
  have G := abel_grp hg
  obtain ⟨i, hi⟩ := bit_ex h1
  obtain ⟨j, hj⟩ := bit_ex h2
  have hiN := el_of hg ha hi
  have hjN := el_of hg hb hj
  have h := cauchy G (isSum_N hg ha hb) (cd_pos (show i < _ by omega) hi) (cd_pos (show j < _ by omega) hj) hP
  rw [cd_bits ha (by omega), cd_bits hb (by omega), cd_bits (sumN_lt hg _ _) (by omega)] at h
  exact h
theorem stp_mul {l : List Int} (ho : Ords l) (x : Nat) : ∀ i : Nat, ((stp (adN l) x 0 i : Nat) : Int) = mulN l (x : Int) (i : Int)
  | 0 => by rw [show (((0 : Nat)) : Int) = 0 from rfl, mulN_zero]; rfl
  | i + 1 => by
    show (((addN l ((stp (adN l) x 0 i : Nat) : Int) (x : Int)).toNat : Nat) : Int) = _
    rw [nat_add ho, stp_mul ho x i, mulN_succ ho]
    rfl
/-- An element of the order of the group reaches all. -/
theorem stp_apart {l : List Int} (hg : grpB l = true) {x : Nat} (h : IsOrd l (x : Int) (prodI l).toNat) : ∀ i j, i < j → j < (prodI l).toNat → stp (adN l) x 0 i ≠ stp (adN l) x 0 j := fun i j hij hj e => by
  have ho := ords_grp hg
  have G := abel_grp hg
  -- i steps back from both
  have key : ∀ k, k ≤ i → stp (adN l) x 0 (i - k) = stp (adN l) x 0 (j - k) := fun k => by
    induction k with
    | zero => intro _; exact e
    | succ k ih =>
      intro hk
      have h1 := ih (by omega)
      obtain ⟨m, hm⟩ : ∃ m, i - k = m + 1 := ⟨i - k - 1, by omega⟩
      obtain ⟨n, hn⟩ : ∃ n, j - k = n + 1 := ⟨j - k - 1, by omega⟩
      have em : i - (k + 1) = m := by omega
      have en : j - (k + 1) = n := by omega
      rw [hm, hn] at h1
      rw [em, en]
      have h2 : adN l (stp (adN l) x 0 m) x = adN l (stp (adN l) x 0 n) x := h1
      have hlt : ∀ q, stp (adN l) x 0 q < (prodI l).toNat := fun q => by
        cases q with
        | zero => exact G.pos
        | succ q => exact G.lt _ _
      rw [← ab_back G x (hlt m), h2, ab_back G x (hlt n)]
  have h1 := key i (Nat.le_refl _)
  rw [Nat.sub_self] at h1
  have h2 := stp_mul ho x (j - i)
  rw [← h1] at h2
  exact h.2.2.2 (j - i) (by omega) (by omega) h2.symm
/-- Chowla's bound, as numbers. -/
theorem cho_num {l : List Int} (hg : grpB l = true) {a b : Nat} (ha : a < 2 ^ (prodI l).toNat) (hb : b < 2 ^ (prodI l).toNat) (h1 : a ≠ 0) (h2 : b.testBit 0 = true)
    (ho : ∀ x, b.testBit x = true → x ≠ 0 → IsOrd l (x : Int) (prodI l).toNat) :
    (prodI l).toNat ≤ (bitsN (sumN l a b)).length ∨ (bitsN a).length + (bitsN b).length ≤ (bitsN (sumN l a b)).length + 1 := by
  have hp := (ords_grp hg).prod
  have G := abel_grp hg
  have hs := sumN_lt hg a b
  obtain ⟨i, hi⟩ := bit_ex h1
  have hiN := el_of hg ha hi
  have h := chowla G (isSum_N hg ha hb) (isSum_fill hg ha hs) (isSum_fill hg hb hs) (cd_pos (show i < _ by omega) hi) h2 (fun x _ hbx h0 => stp_apart hg (ho x hbx h0))
  rw [cd_bits ha (by omega), cd_bits hb (by omega), cd_bits hs (by omega)] at h
  exact h
theorem sumL_bits (f : Nat → Int) {m n : Nat} (hm : m < 2 ^ n) (hn : n ≤ 24) : sumL f (bitsN m) = accN (fun i => bitI m i * f i) n := by
  rw [← upK_full hm hn]
  clear hm hn
  induction n with
  | zero => rfl
  | succ k ih =>
    simp only [accN]
    rw [← ih, upK_succ]
    unfold bitI
    by_cases h : m.testBit k = true
    · rw [if_pos h, if_pos h, sumL_app]; simp [sumL]
    · rw [if_neg h, if_neg h]; omega
/-- The counts of a table are those of the plain theorems. -/
theorem par_cor {l : List Int} (hg : grpB l = true) {a b : Nat} (ha : a < 2 ^ (prodI l).toNat) (hb : b < 2 ^ (prodI l).toNat) {s : Nat} (hs : s < (prodI l).toNat) :
    parN l (bitsN a) (bitsN b) s = cor (prodI l).toNat (adN l) (nnN l) (fun i => a.testBit i) (fun i => b.testBit i) s := by
  have hp := (ords_grp hg).prod
  have h1 := par_bits hg hb (bitsN a) (s := s) (by omega)
  rw [sumL_bits _ ha (by omega)] at h1
  have h2 := sm_acc (fun x => (a.testBit x).toNat * (b.testBit (adN l s (nnN l x))).toNat) (prodI l).toNat
  have e : accN (fun x => (((a.testBit x).toNat * (b.testBit (adN l s (nnN l x))).toNat : Nat) : Int)) (prodI l).toNat = accN (fun i => bitI a i * bitI b (addN l (s : Int) (negN l (i : Int))).toNat) (prodI l).toNat := accN_congr (fun x _ => by
    have e1 : adN l s (nnN l x) = (addN l (s : Int) (negN l (x : Int))).toNat := by unfold adN nnN; rw [nat_neg (ords_grp hg)]
    rw [e1]
    unfold bitI
    cases a.testBit x <;> cases b.testBit (addN l (s : Int) (negN l (x : Int))).toNat <;> simp)
  show _ = sm (fun x => (a.testBit x).toNat * (b.testBit (adN l s (nnN l x))).toNat) (prodI l).toNat
  omega
theorem ng_bits {l : List Int} (hg : grpB l = true) {a : Nat} (ha : a < 2 ^ (prodI l).toNat) {z : Nat} (hz : z < (prodI l).toNat) : (ngN l a).testBit z = a.testBit (nnN l z) := by
  have ho := ords_grp hg
  have G := abel_grp hg
  apply Bool.eq_iff_iff.2
  unfold ngN
  rw [orF_bit]
  constructor
  · rintro ⟨x, hx, e⟩
    have hxN := grp_elt hg ha hx
    have e2 : nnN l x = z := e
    rw [← e2, ng_ng G (by omega)]
    exact (mem_bits (grp_pow hg ha) x).1 hx
  · intro h
    exact ⟨nnN l z, (mem_bits (grp_pow hg ha) _).2 h, ng_ng G hz⟩
/-- The energy by differences. -/
theorem eng_cor {l : List Int} (hg : grpB l = true) {a b : Nat} (ha : a < 2 ^ (prodI l).toNat) (hb : b < 2 ^ (prodI l).toNat) :
    accN (fun i => (tabN l a (ngN l a)).getD i 0 * (tabN l b (ngN l b)).getD i 0) (prodI l).toNat = accN (fun i => (tabN l a b).getD i 0 * (tabN l a b).getD i 0) (prodI l).toNat := by
  have G := abel_grp hg
  have h := cor_sq G (fun i => a.testBit i) (fun i => b.testBit i)
  have hc : ∀ (c : Nat), c < 2 ^ (prodI l).toNat → ∀ i, i < (prodI l).toNat → cor (prodI l).toNat (adN l) (nnN l) (fun i => c.testBit i) (fun z => c.testBit (nnN l z)) i = parN l (bitsN c) (bitsN (ngN l c)) i := fun c hc i hi => by
    rw [par_cor hg hc (ngN_lt hg c) hi]
    unfold cor
    exact sm_congr (fun x _ => by
      show _ = (c.testBit x).toNat * ((ngN l c).testBit (adN l i (nnN l x))).toNat
      rw [ng_bits hg hc (G.lt _ _)])
  have e1 : accN (fun i => (tabN l a b).getD i 0 * (tabN l a b).getD i 0) (prodI l).toNat = ((sm (fun s => cor (prodI l).toNat (adN l) (nnN l) (fun i => a.testBit i) (fun i => b.testBit i) s * cor (prodI l).toNat (adN l) (nnN l) (fun i => a.testBit i) (fun i => b.testBit i) s) (prodI l).toNat : Nat) : Int) := by
    rw [sm_acc]
    exact accN_congr (fun i hi => by rw [tabN_at l a b hi, par_cor hg ha hb hi, Int.natCast_mul])
  rw [e1, h, sm_acc]
  exact accN_congr (fun i hi => by rw [tabN_at l a _ hi, tabN_at l b _ hi, Int.natCast_mul, hc a ha i hi, hc b hb i hi])
/-- The counts of a table add up to the product of the sizes. -/
theorem tab_total {l : List Int} (hg : grpB l = true) {a b : Nat} (ha : a < 2 ^ (prodI l).toNat) (hb : b < 2 ^ (prodI l).toNat) :
    accN (fun i => (tabN l a b).getD i 0) (prodI l).toNat = ((bitsN a).length : Int) * ((bitsN b).length : Int) := by
  have hp := (ords_grp hg).prod
  have G := abel_grp hg
  have h := cor_total G (fun i => a.testBit i) (fun i => b.testBit i)
  rw [cd_bits ha (by omega), cd_bits hb (by omega)] at h
  rw [← Int.natCast_mul, ← h, sm_acc]
  exact accN_congr (fun i hi => by rw [tabN_at l a b hi, par_cor hg ha hb hi])
theorem parN_pos (l : List Int) (M : List Nat) (z : Nat) : ∀ L : List Nat, 0 < parN l L M z ↔ ∃ u ∈ L, ∃ v ∈ M, (addN l (u : Int) (v : Int)).toNat = z
  | [] => by simp [parN]
  | u :: t => by
    have e : parN l (u :: t) M z = hitN l M u z + parN l t M z := by simp [parN]
    have ih := parN_pos l M z t
    have hh : 0 < hitN l M u z ↔ ∃ v ∈ M, (addN l (u : Int) (v : Int)).toNat = z := by
      unfold hitN
      rw [List.countP_pos_iff]
      simp
    rw [e]
    constructor
    · intro h
      rcases Nat.eq_zero_or_pos (hitN l M u z) with h0 | h0
      · obtain ⟨u', hu, hv⟩ := ih.1 (by omega)
        exact ⟨u', by simp [hu], hv⟩
      · exact ⟨u, by simp, hh.1 h0⟩
    · rintro ⟨u', hu, hv⟩
      rcases List.mem_cons.1 hu with rfl | hu
      · have := hh.2 hv; omega
      · have := ih.2 ⟨u', hu, hv⟩; omega
/-- The bound of Cauchy and Schwarz for energies. -/
theorem eng_low {l : List Int} (hg : grpB l = true) {a b : Nat} (ha : a < 2 ^ (prodI l).toNat) (hb : b < 2 ^ (prodI l).toNat) :
    (((bitsN a).length : Int) * ((bitsN b).length : Int)) * (((bitsN a).length : Int) * ((bitsN b).length : Int)) ≤ accN (fun i => (tabN l a b).getD i 0 * (tabN l a b).getD i 0) (prodI l).toNat * ((bitsN (sumN l a b)).length : Int) := by
  have hp := (ords_grp hg).prod
  have h := (schwarz (fun s => parN l (bitsN a) (bitsN b) s) (prodI l).toNat).1
  have e1 : ((sm (fun s => parN l (bitsN a) (bitsN b) s) (prodI l).toNat : Nat) : Int) = ((bitsN a).length : Int) * ((bitsN b).length : Int) := by
    rw [← tab_total hg ha hb, sm_acc]
    exact accN_congr (fun i hi => by rw [tabN_at l a b hi])
  have e2 : ((sm (fun s => parN l (bitsN a) (bitsN b) s * parN l (bitsN a) (bitsN b) s) (prodI l).toNat : Nat) : Int) = accN (fun i => (tabN l a b).getD i 0 * (tabN l a b).getD i 0) (prodI l).toNat := by
    rw [sm_acc]
    exact accN_congr (fun i hi => by rw [tabN_at l a b hi, Int.natCast_mul])
  have e3 : sm (fun i => (decide (0 < parN l (bitsN a) (bitsN b) i)).toNat) (prodI l).toNat = (bitsN (sumN l a b)).length := by
    rw [← cd_bits (sumN_lt hg a b) (by omega)]
    unfold cd
    refine sm_congr (fun z hz => ?_)
    congr 1
    apply Bool.eq_iff_iff.2
    have h2 := isSum_N hg ha hb z hz
    have h3 : 0 < parN l (bitsN a) (bitsN b) z ↔ ∃ x y, x < (prodI l).toNat ∧ y < (prodI l).toNat ∧ a.testBit x = true ∧ b.testBit y = true ∧ adN l x y = z := by
      rw [parN_pos]
      constructor
      · rintro ⟨u, hu, v, hv, e⟩
        have h4 := grp_elt hg ha hu
        have h5 := grp_elt hg hb hv
        have h6 : u < (prodI l).toNat := by clear e h; omega
        have h7 : v < (prodI l).toNat := by clear e h; omega
        exact ⟨u, v, h6, h7, (mem_bits (grp_pow hg ha) u).1 hu, (mem_bits (grp_pow hg hb) v).1 hv, e⟩
      · rintro ⟨u, v, _, _, hu, hv, e⟩
        exact ⟨u, (mem_bits (grp_pow hg ha) u).2 hu, v, (mem_bits (grp_pow hg hb) v).2 hv, e⟩
    rw [decide_eq_true_iff, h3]
    exact h2.symm
  rw [e3] at h
  have h' : ((sm (fun s => parN l (bitsN a) (bitsN b) s) (prodI l).toNat * sm (fun s => parN l (bitsN a) (bitsN b) s) (prodI l).toNat : Nat) : Int) ≤ (((bitsN (sumN l a b)).length * sm (fun s => parN l (bitsN a) (bitsN b) s * parN l (bitsN a) (bitsN b) s) (prodI l).toNat : Nat) : Int) := by exact_mod_cast h
  rw [Int.natCast_mul, Int.natCast_mul, e1, e2] at h'
  rw [Int.mul_comm (accN _ _)]
  exact h'
end Go.Proofs.YtfkleihnafeoeaaGreatDoor
