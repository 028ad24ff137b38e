/- Plain mathematics that the general law of groups asks for: an element's order divides the exponent and the number of elements, places lead back to the element, what is written of a group is read as that group. -/
import Derived.Test.YticgoodmfjjggaaGreatDoorGrpAx
import Derived.Test.YticgoodmfjjggaaGreatDoorGrpSpec6
import Derived.Test.YticgoodmfjjggaaGreatDoorGrpOrd
import Derived.Test.YticgoodmfjjggaaGreatDoorNUMA
namespace Go.Proofs.YticgoodmfjjggaaGreatDoor
open Go.RowKit
/-- Every order divides the number of elements. -/
theorem prod_dvd {l : List Int} {j : Nat} (hj : j < l.length) : l.getD j 0 ∣ prodI l := by
  obtain ⟨S, hS⟩ := PK_dvd (l := l) (j + 1) l.length (by omega) (Nat.le_refl _)
  rw [← PK_full, hS, PK_succ l j hj, Int.mul_assoc, Int.mul_comm, Int.mul_assoc]
  exact ⟨_, rfl⟩
theorem lcm_dvd {l : List Int} : ∀ k, ∀ j, j < k → l.getD j 0 ∣ lcmK l k
  | 0, _, h => by omega
  | k + 1, j, h => by
    simp only [lcmK]
    by_cases e : j = k
    · subst e
      exact Int.dvd_lcm_right _ _
    · exact Int.dvd_trans (lcm_dvd k j (by omega)) (Int.dvd_lcm_left _ _)
/-- A number that all orders divide takes every element to 0. -/
theorem mul_of_dvd {l : List Int} (h : Ords l) (x N : Int) (hd : ∀ j, j < l.length → l.getD j 0 ∣ N) : mulN l x N = 0 :=
  (mulN_eq_zero h x N).2 (fun j hj => by
    unfold mulF
    exact Int.emod_eq_zero_of_dvd (Int.dvd_trans (hd j hj) (Int.dvd_mul_left _ _)))
/-- The order divides every number that takes the element to 0. -/
theorem ord_dvd {l : List Int} (h : Ords l) {x : Int} {m : Nat} (ho : IsOrd l x m) {N : Int} (hz : mulN l x N = 0) : N % (m : Int) = 0 := by
  obtain ⟨m1, _, mz, ml⟩ := ho
  have hr0 := Int.emod_nonneg N (b := (m : Int)) (by omega)
  have hr1 := Int.emod_lt_of_pos N (b := (m : Int)) (by omega)
  obtain ⟨r, hr⟩ : ∃ r : Nat, N % (m : Int) = r := ⟨(N % (m : Int)).toNat, by omega⟩
  have hrz : mulN l x (r : Int) = 0 := by
    rw [mulN_eq_zero h] at hz mz ⊢
    intro j hj
    have h1 := Int.dvd_of_emod_eq_zero (hz j hj)
    have h2 := Int.dvd_of_emod_eq_zero (mz j hj)
    unfold mulF
    apply Int.emod_eq_zero_of_dvd
    have e : dig l x j * (r : Int) = dig l x j * N - dig l x j * (m : Int) * (N / (m : Int)) := by
      rw [← hr, Int.emod_def, Int.mul_sub, Int.mul_assoc]
    rw [e]
    exact Int.dvd_sub h1 (Int.dvd_trans h2 (Int.dvd_mul_right _ _))
  by_cases h0 : r = 0
  · rw [hr, h0]; rfl
  · exact absurd hrz (ml r (by omega) (by omega))
theorem isE_elem {l : List Int} (hg : grpB l = true) {x : Int} (h0 : 0 ≤ x) (h1 : x < prodI l) : isE l x = true := by
  simp only [isE, ordN_grp hg, Bool.and_eq_true, decide_eq_true_eq]
  exact ⟨h0, h1⟩
theorem addE_comm (l : List Int) (x y : Int) : addE l x y = addE l y x := by
  unfold addE
  by_cases h1 : isE l x = true <;> by_cases h2 : isE l y = true <;> simp [h1, h2, addN_comm l x y]
theorem addE_sum {l : List Int} {x y : Int} (h : 0 ≤ addE l x y) : isE l x = true ∧ isE l y = true ∧ addE l x y = addN l x y := by
  unfold addE at h ⊢
  by_cases h1 : isE l x = true
  · by_cases h2 : isE l y = true
    · rw [if_pos h1, if_pos h2]; exact ⟨h1, h2, rfl⟩
    · rw [if_pos h1, if_neg h2] at h; omega
  · rw [if_neg h1] at h; omega
/-- What a sum that is told says of its terms. -/
theorem sum_back {l : List Int} {x y : Int} (h : 0 ≤ addE l x y) : addE l (addE l x y) (negE l y) = x ∧ addE l x 0 = x ∧ ∀ v, isE l v = true → addE l (addE l x y) v = addE l x (addE l y v) := by
  obtain ⟨hx, hy, e⟩ := addE_sum h
  obtain ⟨hg, x0, x1, _⟩ := isE_true hx
  have ho := ords_grp hg
  have hp := ho.prod
  have a := addN_in ho x y
  have hz : isE l (addN l x y) = true := isE_elem hg a.1 a.2
  have n := negN_in ho y
  have hn : isE l (negN l y) = true := isE_elem hg n.1 n.2
  have h0 : isE l 0 = true := isE_elem hg (by omega) (by omega)
  have en : negE l y = negN l y := by unfold negE; rw [if_pos hy]
  refine ⟨?_, ?_, fun v hv => ?_⟩
  · rw [e, en]
    unfold addE
    rw [if_pos hz, if_pos hn, add_neg_back ho y x0 x1]
  · unfold addE
    rw [if_pos hx, if_pos h0, addN_zero ho x0 x1]
  · have b := addN_in ho y v
    have hyv : isE l (addN l y v) = true := isE_elem hg b.1 b.2
    rw [e]
    have e2 : addE l y v = addN l y v := by unfold addE; rw [if_pos hy, if_pos hv]
    rw [e2]
    unfold addE
    rw [if_pos hz, if_pos hv, if_pos hx, if_pos hyv, addN_assoc ho]
theorem plc_at {l : List Int} {x : Int} (h : isE l x = true) {j : Nat} (hj : j < l.length) : (plc l x).getD j 0 = dig l x j := by
  unfold plc
  rw [if_pos h]
  simp [List.getD, hj]
/-- Places lead back to the element. -/
theorem elem_back {l : List Int} {x : Int} (h : isE l x = true) : elemV l (plc l x) = x ∧ decide (ElemP l (plc l x)) = true := by
  obtain ⟨hg, x0, x1, _⟩ := isE_true h
  have ho := ords_grp hg
  have hE : ElemP l (plc l x) := ⟨hg, by unfold plc; rw [if_pos h]; simp, fun j hj => by rw [plc_at h hj]; exact dig_bnd hg x hj⟩
  refine ⟨?_, decide_eq_true hE⟩
  unfold elemV
  rw [if_pos hE, val_congr l _ (dig l x) _ (fun j hj => plc_at h hj), val_dig ho x0 x1]
/-- What is so of an element's order. -/
theorem ord_facts {l : List Int} {x : Int} {m : Nat} (h : isE l x = true) (ho : OrdX l x m) : 1 ≤ m ∧ m ≤ 24 ∧ mulE l x m = 0 ∧ expE l % (m : Int) = 0 ∧ ordN l % (m : Int) = 0 ∧ 0 ≤ expE l ∧ expE l ≤ 13824 := by
  obtain ⟨hg, x0, x1, _⟩ := isE_true h
  have hO := ords_grp hg
  have hm := ho.1 h
  obtain ⟨m1, m2, mz, _⟩ := id hm
  have hp := hO.prod
  have hl := lcmK_bnd hO l.length (Nat.le_refl _)
  have he : expE l = lcmK l l.length := by unfold expE; rw [if_pos hg]
  rw [PK_full] at hl
  refine ⟨m1, m2, ?_, ?_, ?_, by rw [he]; omega, by rw [he]; omega⟩
  · unfold mulE
    rw [if_pos h, if_pos (by omega), mz]
  · rw [he]
    exact ord_dvd hO hm (mul_of_dvd hO x _ (fun j hj => lcm_dvd l.length j hj))
  · rw [ordN_grp hg]
    exact ord_dvd hO hm (mul_of_dvd hO x _ (fun j hj => prod_dvd hj))
theorem gparts_app (q : List UInt8) (hq : ∀ x ∈ q, x ≠ 120) (cur r : List UInt8) : partsC 120 cur (q ++ r) = partsC 120 (cur ++ q) r := by
  induction q generalizing cur with
  | nil => simp
  | cons y t ih =>
    rw [List.cons_append, partsC, if_neg (hq y (by simp)), ih (fun x hx => hq x (by simp [hx]))]
    simp
theorem gparts_tail (Q : List (List UInt8)) (hQ : ∀ q ∈ Q, ∀ x ∈ q, x ≠ 120) (cur : List UInt8) : partsC 120 cur (Lib.joinTail [120] Q) = cur :: Q := by
  induction Q generalizing cur with
  | nil => simp [Lib.joinTail, partsC]
  | cons y t ih =>
    have e : Lib.joinTail [120] (y :: t) = 120 :: (y ++ Lib.joinTail [120] t) := by simp [Lib.joinTail]
    rw [e, partsC, if_pos rfl, gparts_app y (hQ y (by simp)), List.nil_append, ih (fun q hq => hQ q (by simp [hq]))]
theorem gparts_join (Q : List (List UInt8)) (hne : Q ≠ []) (hQ : ∀ q ∈ Q, ∀ x ∈ q, x ≠ 120) : partsC 120 [] (Lib.join Q [120]) = Q := by
  match Q, hne with
  | x :: t, _ =>
    rw [Lib.join_cons, gparts_app x (hQ x (by simp)), List.nil_append, gparts_tail t (fun q hq => hQ q (by simp [hq]))]
theorem gacc_small {n : Int} (h0 : 2 ≤ n) (h1 : n ≤ 24) : accB (Lib.itoa n) = true ∧ resV (Lib.itoa n) = n ∧ ∀ x ∈ Lib.itoa n, x ≠ 120 := by
  have hl := two_digits h0 h1
  have hv := (itoa_shape n).1
  have ha : accB (Lib.itoa n) = true := by
    unfold accB
    have := cnt_le (Lib.itoa n)
    rw [hv]
    simp; omega
  refine ⟨ha, by unfold resV; rw [if_pos ha, hv], fun x hx e => ?_⟩
  obtain ⟨u, rfl⟩ : ∃ u : Nat, n = u := ⟨n.toNat, by omega⟩
  rw [Lib.itoa_nonneg] at hx
  have := (dec_facts u).2 x (by simpa using hx)
  rw [e] at this
  revert this
  decide
theorem ord_mem {l : List Int} (h : grpB l = true) {n : Int} (hn : n ∈ l) : 2 ≤ n ∧ n ≤ 24 := by
  obtain ⟨j, hj, e⟩ := List.mem_iff_getElem.1 hn
  have := ord_at h hj
  simpa [List.getD, hj, e] using this
/-- What is written of a group is read as it, and nothing is read where there is none. -/
theorem group_back (l : List Int) : specR (fmtG l) = if grpB l = true then some l else none := by
  cases hg : grpB l with
  | false =>
    rw [if_neg (by decide)]
    have hf : fmtG l = [] := by unfold fmtG; rw [if_neg (by simp [hg])]
    rw [hf]
    unfold specR
    rw [if_neg (by decide), if_neg (by decide)]
    have : accB ([] : List UInt8) = false := by rw [acc_iff, show pdB (digL ([] : List UInt8)) = false by decide, Bool.false_and]
    simp [specLoop, this]
  | true =>
    rw [if_pos rfl, ← both_read]
    unfold fmtG
    rw [if_pos hg]
    by_cases hl : l = []
    · rw [if_pos hl, hl]
      unfold implR
      rw [if_pos rfl]
    · rw [if_neg hl]
      have hne : l.map Lib.itoa ≠ [] := by simpa using hl
      have hP : partsC 120 [] (txtK l l.length) = l.map Lib.itoa := by
        unfold txtK
        rw [List.take_length]
        exact gparts_join _ hne (fun q hq x hx => by
          rw [List.mem_map] at hq
          obtain ⟨n, hn1, rfl⟩ := hq
          exact (gacc_small (ord_mem hg hn1).1 (ord_mem hg hn1).2).2.2 x hx)
      have hacc : allAcc (l.map Lib.itoa) = true := by
        unfold allAcc
        rw [List.all_eq_true]
        intro p hp
        rw [List.mem_map] at hp
        obtain ⟨n, hn1, rfl⟩ := hp
        exact (gacc_small (ord_mem hg hn1).1 (ord_mem hg hn1).2).1
      have hV : (l.map Lib.itoa).map resV = l := by
        rw [List.map_map]
        conv => rhs; rw [← List.map_id l]
        apply List.map_congr_left
        intro n hn1
        exact (gacc_small (ord_mem hg hn1).1 (ord_mem hg hn1).2).2.1
      have h49 : txtK l l.length ≠ [49] := fun e => by
        rw [e] at hP
        have h1 : partsC 120 [] ([49] : List UInt8) = [[49]] := by decide
        rw [h1] at hP
        rw [← hP] at hV
        have h4 : resV ([49] : List UInt8) ≤ 1 := by
          unfold resV
          split
          · exact (by decide : vOf ([49] : List UInt8) ≤ 1)
          · omega
        have := (ord_mem hg (n := resV [49]) (by rw [← hV]; simp)).1
        omega
      obtain ⟨f1, _⟩ := splitC_few 120 3 (txtK l l.length)
      rw [hP] at f1
      have h3 := (grpB_true hg).1
      unfold implR
      rw [if_neg h49, f1 (by rw [List.length_map]; omega), hacc, if_pos rfl, hV, hg, if_pos rfl]
end Go.Proofs.YticgoodmfjjggaaGreatDoor
