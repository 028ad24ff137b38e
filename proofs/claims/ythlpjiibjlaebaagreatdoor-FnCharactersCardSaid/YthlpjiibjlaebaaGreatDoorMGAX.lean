/- Merged: ChaCnt ChaAx7 ChaAx8. -/
import Derived.Test.YthlpjiibjlaebaaGreatDoorMGAM
import Derived.Test.YthlpjiibjlaebaaGreatDoorChaAx
import Derived.Test.YthlpjiibjlaebaaGreatDoorMGAP
import Derived.Test.YthlpjiibjlaebaaGreatDoorMGAQ
import Derived.Test.YthlpjiibjlaebaaGreatDoorMGAL
namespace Go.Proofs.YthlpjiibjlaebaaGreatDoor
open Go.RowKit
/-- The value as a number, and the exponent. -/
def chV (l : List Int) (i x : Nat) : Nat := (chN l (i : Int) (x : Int)).toNat
def expV (l : List Int) : Nat := (expN l).toNat
theorem exp_le {l : List Int} (hg : grpB l = true) : 0 < expV l ∧ expV l ≤ 24 ∧ ((expV l : Nat) : Int) = expN l := by
  have hO := ords_grp hg
  have h1 := expN_pos hO
  have h2 := (lcmK_bnd hO _ (Nat.le_refl _)).2
  rw [PK_full] at h2
  have h3 := hO.prod
  have h4 : expN l ≤ prodI l := h2
  unfold expV
  omega
theorem chV_lt {l : List Int} (hg : grpB l = true) (i x : Nat) : chV l i x < expV l ∧ ((chV l i x : Nat) : Int) = chN l (i : Int) (x : Int) := by
  have h := chN_bnd (ords_grp hg) (i : Int) (x : Int)
  have h1 := exp_le hg
  unfold chV
  omega
theorem chV_add {l : List Int} (hg : grpB l = true) (i x y : Nat) : (chV l i x + chV l i y) % expV l = chV l i (addN l (x : Int) (y : Int)).toNat := by
  have hO := ords_grp hg
  have h := chN_add hO (i : Int) (x : Int) (y : Int)
  have h1 := exp_le hg
  have h2 := chV_lt hg i x
  have h3 := chV_lt hg i y
  have h4 := chV_lt hg i (addN l (x : Int) (y : Int)).toNat
  rw [Int.toNat_of_nonneg (addN_in hO _ _).1] at h4
  have h5 : (((chV l i x + chV l i y) % expV l : Nat) : Int) = ((chV l i (addN l (x : Int) (y : Int)).toNat : Nat) : Int) := by
    rw [h4.2, ← h, Int.natCast_emod, Int.natCast_add, h1.2.2, h2.2, h3.2]
  omega
/-- The elements of h with the value e. -/
def fibL (l : List Int) (h i e : Nat) : List Nat := (bitsN h).filter fun x => chV l i x == e
theorem fib_le {l : List Int} (hg : grpB l = true) {h i e y z : Nat} (hs : IsSg l h) (hy : h.testBit y = true) (hz : (chV l i y + e) % expV l = z) : (fibL l h i e).length ≤ (fibL l h i z).length := by
  have hO := ords_grp hg
  have h24 := grp_pow hg hs.1
  have hyP := el_of hg hs.1 hy
  have hle := len_le_of_sub ((fibL l h i e).map fun x : Nat => (addN l (x : Int) (y : Int)).toNat) (fibL l h i z) (by
    rw [List.Nodup, List.pairwise_map]
    refine List.Pairwise.imp_of_mem (R := fun a b => a ≠ b) (fun {a b} ha hb hab e => hab ?_) ((bits_nodup h).filter _)
    have ha1 := el_of hg hs.1 ((mem_bits h24 a).1 (List.mem_filter.1 ha).1)
    have hb1 := el_of hg hs.1 ((mem_bits h24 b).1 (List.mem_filter.1 hb).1)
    have e1 := add_neg_back hO (y : Int) (x := (a : Int)) (by omega) ha1
    have e2 := add_neg_back hO (y : Int) (x := (b : Int)) (by omega) hb1
    have i1 := addN_in hO (a : Int) (y : Int)
    have i2 := addN_in hO (b : Int) (y : Int)
    have e3 : addN l (a : Int) (y : Int) = addN l (b : Int) (y : Int) := by omega
    rw [e3, e2] at e1
    omega) (fun x hx => by
    obtain ⟨a, ha, rfl⟩ := List.mem_map.1 hx
    obtain ⟨a1, a2⟩ := List.mem_filter.1 ha
    have a3 := (mem_bits h24 a).1 a1
    have a4 : chV l i a = e := by simpa using a2
    refine List.mem_filter.2 ⟨(mem_bits h24 _).2 (hs.2.2 y a hy a3), ?_⟩
    rw [beq_iff_eq, ← chV_add hg, a4, Nat.add_comm]
    exact hz)
  rw [List.length_map] at hle
  exact hle
/-- Whether a value is taken on h. -/
def Takes (l : List Int) (h i e : Nat) : Prop := ∃ x, h.testBit x = true ∧ chV l i x = e
theorem takes_zero {l : List Int} {h i : Nat} (hs : IsSg l h) : Takes l h i 0 := ⟨0, hs.2.1, by
  unfold chV
  rw [show ((0 : Nat) : Int) = 0 from rfl, chN_zero]
  rfl⟩
theorem takes_add {l : List Int} (hg : grpB l = true) {h i a b : Nat} (hs : IsSg l h) (ha : Takes l h i a) (hb : Takes l h i b) : Takes l h i ((a + b) % expV l) := by
  obtain ⟨x, hx, rfl⟩ := ha
  obtain ⟨y, hy, rfl⟩ := hb
  exact ⟨_, hs.2.2 y x hy hx, (chV_add hg i x y).symm⟩
theorem takes_mul {l : List Int} (hg : grpB l = true) {h i a : Nat} (hs : IsSg l h) (ha : Takes l h i a) : ∀ k : Nat, Takes l h i (k * a % expV l)
  | 0 => by rw [Nat.zero_mul, Nat.zero_mod]; exact takes_zero hs
  | k + 1 => by
    have h1 := takes_add hg hs (takes_mul hg hs ha k) ha
    rw [Nat.mod_add_mod] at h1
    rw [Nat.succ_mul]
    exact h1
/-- All fibres that are not empty are as large as that of 0. -/
theorem fib_same {l : List Int} (hg : grpB l = true) {h i e : Nat} (hs : IsSg l h) (he : Takes l h i e) : (fibL l h i e).length = (fibL l h i 0).length := by
  have hE := exp_le hg
  obtain ⟨y, hy, hye⟩ := he
  have hlt := (chV_lt hg i y).1
  apply Nat.le_antisymm
  · -- back by the multiple that is the inverse
    obtain ⟨z, hz, hze⟩ := takes_mul hg hs (a := e) ⟨y, hy, hye⟩ (expV l - 1)
    refine fib_le hg hs hz ?_
    rw [hze, Nat.mod_add_mod]
    have h1 : (expV l - 1) * e + e = expV l * e := by
      obtain ⟨n, hn⟩ : ∃ n, expV l = n + 1 := ⟨expV l - 1, by omega⟩
      rw [hn, Nat.add_sub_cancel, Nat.succ_mul]
    rw [h1, Nat.mul_mod_right]
  · refine fib_le hg hs hy ?_
    rw [hye, Nat.add_zero, Nat.mod_eq_of_lt (by omega)]
/-- The values are the multiples of one number. -/
theorem takes_all {l : List Int} (hg : grpB l = true) {h i : Nat} (hs : IsSg l h) : ∃ g, 0 < g ∧ g ≤ expV l ∧ expV l % g = 0 ∧ (∀ e, e < expV l → (Takes l h i e ↔ e % g = 0)) := by
  obtain ⟨hE0, _, _⟩ := exp_le hg
  obtain ⟨g, g0, g1, g2⟩ := least_pos (fun d => d = expV l ∨ Takes l h i d) ⟨expV l, hE0, .inl rfl⟩
  have hge : g ≤ expV l := by
    rcases Nat.lt_or_ge (expV l) g with hlt | hge
    · exact absurd (.inl rfl) (g2 (expV l) hE0 hlt)
    · exact hge
  have hmul : ∀ k : Nat, Takes l h i (k * g % expV l) := fun k => by
    rcases g1 with h1 | h1
    · rw [h1, Nat.mul_mod_left]; exact takes_zero hs
    · exact takes_mul hg hs h1 k
  have hsmall : ∀ r, Takes l h i r → r < g → r = 0 := fun r hr hlt => by
    rcases Nat.eq_zero_or_pos r with h0 | h0
    · exact h0
    · exact absurd (.inr hr) (g2 r h0 hlt)
  have hdiv : expV l % g = 0 := by
    rcases Nat.eq_zero_or_pos (expV l % g) with h0 | h0
    · exact h0
    · exfalso
      have hr := Nat.mod_lt (expV l) g0
      have hd := Nat.div_add_mod (expV l) g
      have h1 := hmul (expV l / g + 1)
      have e1 : (expV l / g + 1) * g = expV l + (g - expV l % g) := by
        rw [Nat.succ_mul, Nat.mul_comm]
        omega
      rw [e1, Nat.add_mod_left, Nat.mod_eq_of_lt (by omega)] at h1
      have := hsmall _ h1 (by omega)
      omega
  refine ⟨g, g0, hge, hdiv, fun e he => ⟨fun ht => ?_, fun hm => ?_⟩⟩
  · have hd := Nat.div_add_mod e g
    have hE := Nat.div_add_mod (expV l) g
    have hr := Nat.mod_lt e g0
    have hq : e / g ≤ expV l / g := Nat.div_le_div_right (Nat.le_of_lt he)
    have h1 := takes_add hg hs ht (hmul (expV l / g - e / g))
    rw [Nat.add_mod_mod] at h1
    have e1 : e + (expV l / g - e / g) * g = expV l + e % g := by
      rw [Nat.sub_mul, Nat.mul_comm (expV l / g), Nat.mul_comm (e / g)]
      have h3 : g * (e / g) ≤ g * (expV l / g) := Nat.mul_le_mul_left g hq
      omega
    rw [e1, Nat.add_mod_left, Nat.mod_eq_of_lt (by omega)] at h1
    exact hsmall _ h1 hr
  · have h1 := hmul (e / g)
    have hd := Nat.div_add_mod e g
    rw [Nat.mul_comm, show g * (e / g) = e by omega, Nat.mod_eq_of_lt he] at h1
    exact h1
/-- How often each exponent comes up as a value. -/
def cntL7 (l : List Int) (a i : Nat) : List Int := (List.range (expV l)).map fun e => (((fibL l a i e).length : Nat) : Int)
/-- Over a subgroup the counts are spread evenly. -/
theorem cnt_even {l : List Int} (hg : grpB l = true) {h i : Nat} (hs : IsSg l h) : ∃ (g : Nat) (c : Int), 0 < g ∧ g ≤ expV l ∧ expV l % g = 0 ∧ c ≠ 0 ∧ cntL7 l h i = (sprL g (expV l)).map (fun x => c * x) ∧ (g = expV l ↔ ∀ x : Nat, h.testBit x = true → chN l (i : Int) (x : Int) = 0) := by
  obtain ⟨g, g0, g1, g2, g3⟩ := takes_all hg (i := i) hs
  have h24 := grp_pow hg hs.1
  have hE := exp_le hg
  have hpos : 0 < (fibL l h i 0).length := by
    obtain ⟨x, hx, e⟩ := takes_zero (i := i) hs
    exact List.length_pos_of_mem (List.mem_filter.2 ⟨(mem_bits h24 x).2 hx, by simpa using e⟩)
  refine ⟨g, (((fibL l h i 0).length : Nat) : Int), g0, g1, g2, by omega, ?_, ?_⟩
  · unfold cntL7 sprL
    rw [List.map_map]
    refine List.map_congr_left fun e he => ?_
    rw [List.mem_range] at he
    show _ = (((fibL l h i 0).length : Nat) : Int) * (if e % g = 0 then 1 else 0)
    by_cases hm : e % g = 0
    · rw [if_pos hm, fib_same hg hs ((g3 e he).2 hm), Int.mul_one]
    · rw [if_neg hm, Int.mul_zero]
      have : fibL l h i e = [] := by
        rw [List.eq_nil_iff_forall_not_mem]
        intro x hx
        obtain ⟨h1, h2⟩ := List.mem_filter.1 hx
        exact hm ((g3 e he).1 ⟨x, (mem_bits h24 x).1 h1, by simpa using h2⟩)
      rw [this]
      rfl
  · constructor
    · intro e x hx
      have hv := chV_lt hg i x
      have h1 := (g3 _ hv.1).1 ⟨x, hx, rfl⟩
      rw [e, Nat.mod_eq_of_lt hv.1] at h1
      rw [← hv.2, h1]
      rfl
    · intro hall
      rcases Nat.lt_or_ge g (expV l) with hlt | hge
      · exfalso
        obtain ⟨x, hx, e⟩ := (g3 g hlt).2 (Nat.mod_self g)
        have h1 := (chV_lt hg i x).2
        rw [hall x hx] at h1
        omega
      · omega
/-- The sum of a character over a subgroup is 0 just if the character is not 1 on it. -/
theorem zero_sub {l : List Int} (hg : grpB l = true) {h i : Nat} (hs : IsSg l h) (hi : (i : Int) < prodI l) : allZ (restP (cntL7 l h i) (cycL (expV l))) = !(annN l h).testBit i := by
  obtain ⟨g, c, g0, g1, g2, hc, e, hiff⟩ := cnt_even hg (i := i) hs
  have hE := exp_le hg
  have h24 := grp_pow hg hs.1
  have hP := (ords_grp hg).prod
  rw [e, pol_even hE.1 hE.2.1 g0 g2 hc]
  cases hb : (annN l h).testBit i with
  | true =>
    have h1 := hiff.2 ((ann_bit h24 i).1 hb).2
    rw [h1]
    simp
  | false =>
    have h1 : g ≠ expV l := fun e2 => by
      have h2 := (ann_bit h24 i).2 ⟨by omega, hiff.1 e2⟩
      rw [hb] at h2
      cases h2
    simpa using h1
end Go.Proofs.YthlpjiibjlaebaaGreatDoor

namespace Go.Proofs.YthlpjiibjlaebaaGreatDoor
open Go.RowKit
theorem cc_cnt {l : List Int} {s k : Nat} (hb : ccB l (s : Int) (k : Int) = true) : ccE l (s : Int) (k : Int) = cntL7 l s k := by
  have hg : grpB l = true := by unfold ccB at hb; rw [Bool.and_eq_true] at hb; exact (isS_true hb.1).1
  unfold ccE cntL7 rowZ
  rw [if_pos hb, Int.toNat_natCast]
  show (List.range (expN l).toNat).map _ = (List.range (expN l).toNat).map _
  refine List.map_congr_left fun e _ => ?_
  unfold cntZ fibL
  rw [← List.countP_eq_length_filter]
  congr 2
  funext x
  have h1 := chV_lt hg k x
  rw [← h1.2]
  by_cases h : chV l k x = e
  · simp [h]
  · have h2 : ((chV l k x : Nat) : Int) ≠ (e : Int) := by omega
    rw [beq_eq_false_iff_ne.2 h2, beq_eq_false_iff_ne.2 h]
theorem cc_sg {l : List Int} (hg : grpB l = true) {h i : Nat} (hs : IsSg l h) (hi : (i : Int) < prodI l) : ccB l (h : Int) (i : Int) = true := by
  have h1 : isE l (i : Int) = true := by simp only [isE, ordN_grp hg, Bool.and_eq_true, decide_eq_true_eq]; omega
  have h2 : isS l (h : Int) = true := isS_of hg hs.1
  unfold ccB
  rw [h1, h2]
  rfl
theorem ze_ann {l : List Int} (hg : grpB l = true) {h i : Nat} (hs : IsSg l h) (hi : (i : Int) < prodI l) : zeE l (h : Int) (i : Int) = !(annN l h).testBit i := by
  have hb := cc_sg hg hs hi
  unfold zeE
  rw [hb, Bool.true_and, cc_cnt hb]
  exact zero_sub hg hs hi
/-- A list's numbers, added up. -/
def sumI : List Int → Int
  | [] => 0
  | x :: r => x + sumI r
theorem sumI_append : ∀ a b : List Int, sumI (a ++ b) = sumI a + sumI b
  | [], b => by simp [sumI]
  | x :: a, b => by
    simp only [List.cons_append, sumI]
    rw [sumI_append a b]
    omega
theorem sum_one {E v : Nat} (hv : v < E) : ∀ n, n ≤ E → sumI ((List.range n).map fun e => if v = e then (1 : Int) else 0) = if v < n then 1 else 0
  | 0, _ => by simp [sumI]
  | n + 1, hn => by
    rw [List.range_succ, List.map_append, sumI_append, sum_one hv n (by omega)]
    simp only [List.map_cons, List.map_nil, sumI]
    by_cases h1 : v = n
    · rw [if_neg (by omega), if_pos h1, if_pos (by omega)]
      rfl
    · rw [if_neg h1]
      by_cases h2 : v < n
      · rw [if_pos h2, if_pos (by omega)]
        rfl
      · rw [if_neg h2, if_neg (by omega)]
        rfl
theorem sum_add (f g : Nat → Int) : ∀ n : Nat, sumI ((List.range n).map fun e => f e + g e) = sumI ((List.range n).map f) + sumI ((List.range n).map g)
  | 0 => by simp [sumI]
  | n + 1 => by
    rw [List.range_succ, List.map_append, List.map_append, List.map_append, sumI_append, sumI_append, sumI_append, sum_add f g n]
    simp only [List.map_cons, List.map_nil, sumI]
    omega
theorem sum_cnt {l : List Int} (hg : grpB l = true) (k : Int) (L : List Nat) : sumI ((List.range (expN l).toNat).map (cntZ l k L)) = (L.length : Int) := by
  induction L with
  | nil =>
    have : ∀ n : Nat, sumI ((List.range n).map (cntZ l k [])) = 0 := fun n => by
      induction n with
      | zero => rfl
      | succ n ih =>
        rw [List.range_succ, List.map_append, sumI_append, ih]
        rfl
    simpa using this _
  | cons y L ih =>
    have hb := chN_bnd (ords_grp hg) k (y : Int)
    obtain ⟨v, hv⟩ : ∃ v : Nat, chN l k (y : Int) = (v : Int) := ⟨(chN l k (y : Int)).toNat, by omega⟩
    have hf : cntZ l k (y :: L) = fun e => cntZ l k L e + (if v = e then 1 else 0) := by
      funext e
      unfold cntZ
      rw [List.countP_cons, hv]
      by_cases h : v = e
      · subst h; simp
      · have : ((v : Int) == (e : Int)) = false := by simp; omega
        simp [this, h]
    rw [hf, sum_add, ih, sum_one (E := (expN l).toNat) (by omega) _ (Nat.le_refl _), if_pos (by omega)]
    simp
theorem cc_sum {l : List Int} {s k : Nat} (hb : ccB l (s : Int) (k : Int) = true) : sumI (ccE l (s : Int) (k : Int)) = ((bitsN s).length : Int) := by
  have hg : grpB l = true := by unfold ccB at hb; rw [Bool.and_eq_true] at hb; exact (isS_true hb.1).1
  unfold ccE rowZ
  rw [if_pos hb, Int.toNat_natCast]
  exact sum_cnt hg _ _
end Go.Proofs.YthlpjiibjlaebaaGreatDoor

namespace Go.Proofs.YthlpjiibjlaebaaGreatDoor
open Go.RowKit
theorem cv_yes {l : List Int} {k x v : Int} (hv : valE l k x = v) (h0 : 0 ≤ v) : 0 < ordN l ∧ ordN l ≤ 24 ∧ v ≤ 23 ∧ 1 ≤ expE l ∧ expE l ≤ 24 ∧ valE l x k = v ∧ ∀ y, 0 ≤ y → y < ordN l → 0 ≤ valE l k y ∧ valE l k y ≤ 23 ∧ (v + valE l k y) % expE l = valE l k (addE l x y) := by
  unfold valE at hv
  split at hv
  · next hh =>
    obtain ⟨hk, hx⟩ := hh
    obtain ⟨hg, hk0, hk1, _⟩ := isE_true hk
    obtain ⟨_, hx0, hx1, _⟩ := isE_true hx
    have hO := ords_grp hg
    have hP := hO.prod
    have he := expN_le hg
    have hb := chN_bnd hO k x
    rw [ordN_grp hg, expE_grp hg]
    refine ⟨by omega, by omega, by omega, he.1, he.2, ?_, fun y hy0 hy1 => ?_⟩
    · unfold valE
      rw [if_pos ⟨hx, hk⟩, ← hv, chN_comm]
    · have hy : isE l y = true := by simp only [isE, ordN_grp hg, Bool.and_eq_true, decide_eq_true_eq]; omega
      have hby := chN_bnd hO k y
      have ha := addN_in hO x y
      have hz : isE l (addN l x y) = true := by simp only [isE, ordN_grp hg, Bool.and_eq_true, decide_eq_true_eq]; omega
      have e1 : valE l k y = chN l k y := by unfold valE; rw [if_pos ⟨hk, hy⟩]
      have e2 : addE l x y = addN l x y := by unfold addE; rw [if_pos hx, if_pos hy]
      have e3 : valE l k (addN l x y) = chN l k (addN l x y) := by unfold valE; rw [if_pos ⟨hk, hz⟩]
      rw [e1, e2, e3, ← hv]
      exact ⟨hby.1, by omega, chN_add hO k x y⟩
  · omega
theorem an_no {l : List Int} {h : Int} (hs : isS l h = false) : annE l h = -1 ∧ sgB l h = false :=
  ⟨by unfold annE; rw [if_neg (by simp [hs])], sgB_no hs⟩
theorem an_is {l : List Int} {h : Nat} (hs : isS l (h : Int) = true) : annE l (h : Int) = ((annN l h : Nat) : Int) := by
  unfold annE
  rw [if_pos hs, Int.toNat_natCast]
  rfl
theorem an_yes {l : List Int} {h : Int} (hs : isS l h = true) : 0 ≤ annE l h ∧ annE l h ≤ 16777215 ∧ sgB l (annE l h) = true := by
  obtain ⟨hg, n, rfl, h1, h24⟩ := isS_true hs
  have hA := ann_sg hg h24
  have hA24 := grp_pow hg hA.1
  have hSA : isS l ((annN l n : Nat) : Int) = true := isS_of hg hA.1
  rw [an_is hs]
  exact ⟨by omega, by omega, (sgB_iff hSA).2 hA⟩
theorem an_sg {l : List Int} {h : Int} (hs : sgB l h = true) : annE l (annE l h) = h ∧ 1 ≤ cntE l (annE l h) ∧ cntE l (annE l h) ≤ 24 ∧ 1 ≤ cntE l h ∧ cntE l h ≤ 24 ∧ cntE l (annE l h) * cntE l h = ordN l ∧ 0 ≤ ordN l ∧ ordN l ≤ 24 ∧ ∀ i : Nat, (i : Int) < ordN l → zeE l h (i : Int) = !(lstE l (annE l h)).contains (i : Int) := by
  have hS : isS l h = true := by unfold sgB at hs; exact (Bool.and_eq_true_iff.1 hs).1
  obtain ⟨hg, n, rfl, h1, h24⟩ := isS_true hS
  have hsg := (sgB_iff hS).1 hs
  have hA := ann_sg hg h24
  have hA24 := grp_pow hg hA.1
  have hSA : isS l ((annN l n : Nat) : Int) = true := isS_of hg hA.1
  have hP := (ords_grp hg).prod
  have hz := ann_size hg hsg
  have c1 : cntE l ((annN l n : Nat) : Int) = (((bitsN (annN l n)).length : Nat) : Int) := by unfold cntE; rw [if_pos hSA, Int.toNat_natCast]
  have c2 : cntE l (n : Int) = (((bitsN n).length : Nat) : Int) := by unfold cntE; rw [if_pos hS, Int.toNat_natCast]
  have p1 : 0 < (bitsN (annN l n)).length := List.length_pos_of_mem ((mem_bits hA24 0).2 hA.2.1)
  have p2 : 0 < (bitsN n).length := List.length_pos_of_mem ((mem_bits h24 0).2 hsg.2.1)
  have q1 : (bitsN (annN l n)).length ≤ (prodI l).toNat := by rw [← hz]; exact Nat.le_mul_of_pos_left _ p2
  have q2 : (bitsN n).length ≤ (prodI l).toNat := by rw [← hz]; exact Nat.le_mul_of_pos_right _ p1
  rw [an_is hS, an_is hSA, ann_back hg hsg, c1, c2, ordN_grp hg]
  refine ⟨rfl, by omega, by omega, by omega, by omega, ?_, by omega, by omega, fun i hi => ?_⟩
  · rw [← Int.natCast_mul, Nat.mul_comm, hz]; omega
  · rw [ze_ann hg hsg hi]
    congr 1
    rw [Bool.eq_iff_iff, List.contains_iff_mem]
    unfold lstE
    rw [if_pos hSA, Int.toNat_natCast, List.mem_map]
    constructor
    · intro hb
      exact ⟨i, (mem_bits hA24 i).2 hb, rfl⟩
    · rintro ⟨j, hj, e⟩
      obtain rfl : j = i := by omega
      exact (mem_bits hA24 j).1 hj
theorem sumI_sum : ∀ L : List Int, sumI L = L.sum
  | [] => rfl
  | x :: r => by rw [sumI, sumI_sum r, List.sum_cons]
theorem cc_tot (l : List Int) (a m : Int) : (ccE l a m).length ≤ 24 ∧ (∀ x ∈ ccE l a m, 0 ≤ x ∧ x ≤ 24) ∧ (0 < (ccE l a m).length → (ccE l a m).sum = cntE l a) := by
  cases hb : ccB l a m with
  | false =>
    have e : ccE l a m = [] := by unfold ccE; rw [if_neg (by simp [hb])]
    rw [e]
    exact ⟨by simp, fun x hx => by simp at hx, fun h => by simp at h⟩
  | true =>
    obtain ⟨hg, hlen, _, h24, _⟩ := ccE_yes hb
    have hb2 := hb
    unfold ccB at hb2
    rw [Bool.and_eq_true] at hb2
    obtain ⟨_, n, rfl, h1, hn24⟩ := isS_true hb2.1
    obtain ⟨_, hm0, _, _⟩ := isE_true hb2.2
    obtain ⟨k, rfl⟩ : ∃ k : Nat, m = (k : Int) := ⟨m.toNat, by omega⟩
    have hs := cc_sum hb
    refine ⟨by omega, fun x hx => ?_, fun _ => ?_⟩
    · unfold ccE rowZ at hx
      rw [if_pos hb, List.mem_map] at hx
      obtain ⟨e, _, rfl⟩ := hx
      have := cntZ_bnd l (k : Int) (bitsN (n : Int).toNat) e
      have := bits_le (n : Int).toNat
      omega
    · rw [← sumI_sum, hs]
      unfold cntE
      rw [if_pos hb2.1, Int.toNat_natCast]
end Go.Proofs.YthlpjiibjlaebaaGreatDoor
