/- Plain mathematics of the texts of sets: a text is read as a set if and only if it is the text of this set. -/
import Derived.Test.YthoiabdndaoflabDoorPartsC
import Derived.Test.YthoiabdndaoflabDoorFmtS
import Derived.Test.YthoiabdndaoflabDoorSetOf
namespace Go.Proofs.YthoiabdndaoflabDoor
theorem or_bit (U : List Nat) (s i : Nat) : (U.foldl (fun s x => s ||| 2 ^ x) s).testBit i = (s.testBit i || decide (i ∈ U)) := by
  induction U generalizing s with
  | nil => simp
  | cons x t ih =>
    rw [List.foldl_cons, ih, Nat.testBit_or, Nat.testBit_two_pow]
    by_cases h : x = i
    · subst h; simp
    · have h2 : ¬ i = x := fun e => h e.symm
      simp [h, h2]
/-- The set of a list of elements. -/
def orN (U : List Nat) : Nat := U.foldl (fun s x => s ||| 2 ^ x) 0
theorem orN_bit (U : List Nat) (i : Nat) : (orN U).testBit i = decide (i ∈ U) := by unfold orN; rw [or_bit]; simp
theorem asc_filter (k : Nat) : ∀ (U : List Nat), U.Pairwise (· < ·) → U.filter (fun x => decide (x < k + 1)) = U.filter (fun x => decide (x < k)) ++ (if k ∈ U then [k] else [])
  | [], _ => by simp
  | x :: t, h => by
    rw [List.pairwise_cons] at h
    have ih := asc_filter k t h.2
    rcases Nat.lt_trichotomy x k with hx | hx | hx
    · have h1 : ¬ k = x := by omega
      rw [List.filter_cons_of_pos (by simp; omega), List.filter_cons_of_pos (by simp; omega), ih]
      simp [h1]
    · subst hx
      have e1 : t.filter (fun y => decide (y < x + 1)) = [] := List.filter_eq_nil_iff.2 (fun y hy => by have := h.1 y hy; simp; omega)
      have e2 : t.filter (fun y => decide (y < x)) = [] := List.filter_eq_nil_iff.2 (fun y hy => by have := h.1 y hy; simp; omega)
      rw [List.filter_cons_of_pos (by simp), List.filter_cons_of_neg (by simp), e1, e2]
      simp
    · have e1 : (x :: t).filter (fun y => decide (y < k + 1)) = [] := List.filter_eq_nil_iff.2 (fun y hy => by
        rcases List.mem_cons.1 hy with rfl | hy
        · simp; omega
        · have := h.1 y hy; simp; omega)
      have e2 : (x :: t).filter (fun y => decide (y < k)) = [] := List.filter_eq_nil_iff.2 (fun y hy => by
        rcases List.mem_cons.1 hy with rfl | hy
        · simp; omega
        · have := h.1 y hy; simp; omega)
      have h3 : k ∉ x :: t := fun hk => by
        rcases List.mem_cons.1 hk with rfl | hk
        · omega
        · have := h.1 k hk; omega
      rw [e1, e2, if_neg h3]; rfl
theorem upK_asc {U : List Nat} (h : U.Pairwise (· < ·)) {a : Nat} (ha : ∀ i, a.testBit i = decide (i ∈ U)) : ∀ k, upK a k = U.filter (fun x => decide (x < k))
  | 0 => by simp [upK]
  | k + 1 => by
    rw [upK_succ, ha, upK_asc h ha k, asc_filter k U h]
    by_cases hk : k ∈ U
    · simp [hk]
    · simp [hk]
/-- The elements of the set of an ascending list are the list. -/
theorem bits_asc {U : List Nat} (h : U.Pairwise (· < ·)) (h24 : ∀ x ∈ U, x < 24) {a : Nat} (ha : ∀ i, a.testBit i = decide (i ∈ U)) : bitsN a = U := by
  unfold bitsN
  rw [upK_asc h ha, List.filter_eq_self.2 (fun x hx => by simpa using h24 x hx)]
theorem upK_asc' (a : Nat) : ∀ k, (upK a k).Pairwise (· < ·)
  | 0 => by simp [upK]
  | k + 1 => by
    rw [upK_succ]
    split
    · rw [List.pairwise_append]
      refine ⟨upK_asc' a k, by simp, fun x hx y hy => ?_⟩
      simp at hy; subst hy
      exact (upK_mem hx).1
    · exact upK_asc' a k
theorem bits_bit {a : Nat} (h : a < 2 ^ 24) (i : Nat) : a.testBit i = decide (i ∈ bitsN a) := by
  unfold bitsN upK
  by_cases hi : i < 24
  · cases hb : a.testBit i <;> simp [hi, hb]
  · rw [bit_no h i (by omega)]
    symm
    simp; omega
/-- What reading a list as a set finds, read off the first k. -/
theorem setS_info {l p : List Int} : ∀ {k s : Nat}, k ≤ p.length → setS l p k = some s →
    (∀ j, j < k → isE l (p.getD j 0) = true) ∧ (∀ i j, i < j → j < k → p.getD i 0 ≠ p.getD j 0) ∧ (∀ i : Nat, s.testBit i = decide (∃ j, j < k ∧ p.getD j 0 = (i : Int)))
  | 0, s, _, h => by
    cases h
    exact ⟨fun j hj => by omega, fun i j _ hj => by omega, fun i => by simp⟩
  | k + 1, s, hk, h => by
    simp only [setS] at h
    cases hs : setS l p k with
    | none => rw [hs] at h; cases h
    | some u =>
      rw [hs] at h
      simp only at h
      split at h
      · next he =>
        split at h
        · cases h
        · next hb =>
          cases h
          obtain ⟨i1, i2, i3⟩ := setS_info (by omega) hs
          obtain ⟨_, e0, _, e1⟩ := isE_true he
          have hb' : u.testBit (p.getD k 0).toNat = false := by simpa using hb
          refine ⟨fun j hj => ?_, fun i j hij hj => ?_, fun i => ?_⟩
          · rcases Nat.lt_or_ge j k with h | h
            · exact i1 j h
            · obtain rfl : j = k := by omega
              exact he
          · rcases Nat.lt_or_ge j k with h | h
            · exact i2 i j hij h
            · obtain rfl : j = k := by omega
              intro e
              rw [i3] at hb'
              simp only [decide_eq_false_iff_not] at hb'
              exact hb' ⟨i, hij, by rw [e]; omega⟩
          · rw [add_or hb', Nat.testBit_or, i3, Nat.testBit_two_pow]
            by_cases hx : (p.getD k 0).toNat = i
            · have : ∃ j, j < k + 1 ∧ p.getD j 0 = (i : Int) := ⟨k, by omega, by omega⟩
              simp only [hx, this, decide_true, Bool.or_true]
            · simp only [hx, decide_false, Bool.or_false]
              congr 1
              apply propext
              constructor
              · rintro ⟨j, h1, h2⟩; exact ⟨j, by omega, h2⟩
              · rintro ⟨j, h1, h2⟩
                rcases Nat.lt_or_ge j k with h | h
                · exact ⟨j, h, h2⟩
                · obtain rfl : j = k := by omega
                  omega
      · cases h
theorem setS_asc {l p : List Int} : ∀ {k : Nat}, k ≤ p.length → (∀ j, j < k → isE l (p.getD j 0) = true) → (∀ i j, i < j → j < k → p.getD i 0 < p.getD j 0) → ∃ s, setS l p k = some s
  | 0, _, _, _ => ⟨0, rfl⟩
  | k + 1, hk, h1, h2 => by
    obtain ⟨u, hu⟩ := setS_asc (k := k) (by omega) (fun j hj => h1 j (by omega)) (fun i j a b => h2 i j a (by omega))
    obtain ⟨i1, i2, i3⟩ := setS_info (by omega) hu
    refine ⟨_, setS_add hu (h1 k (by omega)) ?_⟩
    rw [i3]
    simp only [decide_eq_false_iff_not]
    rintro ⟨j, hj, e⟩
    have := h2 j k hj (by omega)
    obtain ⟨_, e0, _, _⟩ := isE_true (h1 k (by omega))
    omega
/-- Whether a list ascends. -/
def srt (p : List Int) : Bool := (List.range (p.length - 1)).all fun j => decide (p.getD j 0 ≤ p.getD (j + 1) 0)
theorem srt_iff (p : List Int) : srt p = true ↔ ∀ j, j + 1 < p.length → p.getD j 0 ≤ p.getD (j + 1) 0 := by
  unfold srt
  rw [List.all_eq_true]
  constructor
  · intro h j hj
    have := h j (by rw [List.mem_range]; omega)
    simpa using this
  · intro h j hj
    rw [List.mem_range] at hj
    simpa using h j (by omega)
theorem srt_le {p : List Int} (h : srt p = true) : ∀ i j, i ≤ j → j < p.length → p.getD i 0 ≤ p.getD j 0 := by
  intro i j hij
  induction j with
  | zero => intro _; obtain rfl : i = 0 := by omega
            exact Int.le_refl _
  | succ j ih =>
    intro hj
    rcases Nat.lt_or_ge i (j + 1) with h1 | h1
    · exact Int.le_trans (ih (by omega) (by omega)) ((srt_iff p).1 h j hj)
    · obtain rfl : i = j + 1 := by omega
      exact Int.le_refl _
theorem getD_map (U : List Nat) (j : Nat) (h : j < U.length) : (U.map fun (x : Nat) => (x : Int)).getD j 0 = (U.getD j 0 : Nat) := by
  simp [List.getD, h]
theorem pair_of {U : List Nat} (h : ∀ i j, i < j → j < U.length → U.getD i 0 < U.getD j 0) : U.Pairwise (· < ·) := by
  rw [List.pairwise_iff_getElem]
  intro i j hi hj hij
  have := h i j hij hj
  simpa [List.getD, hi, hj] using this
theorem of_pair {U : List Nat} (h : U.Pairwise (· < ·)) : ∀ i j, i < j → j < U.length → U.getD i 0 < U.getD j 0 := by
  rw [List.pairwise_iff_getElem] at h
  intro i j hij hj
  have := h i j (by omega) hj hij
  simpa [List.getD, hj, show i < U.length by omega] using this
/-- Reading a list as a set succeeds on an ascending list if and only if it is the list of that set's elements. -/
theorem setS_list {l p : List Int} {s : Nat} (hs : srt p = true) (h : setS l p p.length = some s) (hg : grpB l = true) : isS l (s : Int) = true ∧ lstE l s = p := by
  obtain ⟨i1, i2, i3⟩ := setS_info (Nat.le_refl _) h
  have hle := srt_le hs
  have hstrict : ∀ i j, i < j → j < p.length → p.getD i 0 < p.getD j 0 := fun i j a b => by
    have h1 := hle i j (by omega) b
    have h2 := i2 i j a b
    omega
  have hp := (ords_grp hg).prod
  have hbl : s < 2 ^ (prodI l).toNat := by
    apply Nat.lt_pow_two_of_testBit
    intro i hi
    rw [i3]
    simp only [decide_eq_false_iff_not]
    rintro ⟨j, hj, e⟩
    obtain ⟨_, e0, e2, _⟩ := isE_true (i1 j hj)
    omega
  have hS : isS l (s : Int) = true := by
    simp only [isS, hg, fullN_nat, Bool.true_and, Bool.and_eq_true, decide_eq_true_eq]
    generalize 2 ^ (prodI l).toNat = N at *
    omega
  refine ⟨hS, ?_⟩
  obtain ⟨U, hU⟩ : ∃ U : List Nat, p = U.map fun (x : Nat) => (x : Int) := ⟨p.map Int.toNat, by
    apply List.ext_getElem
    · simp
    · intro j hj _
      have := (isE_true (i1 j hj)).2.1
      simp only [List.getD, List.getElem?_eq_getElem hj, Option.getD_some] at this
      simp; omega⟩
  have hlen : p.length = U.length := by rw [hU]; simp
  have hgd : ∀ j, j < U.length → p.getD j 0 = ((U.getD j 0 : Nat) : Int) := fun j hj => by rw [hU, getD_map U j hj]
  have hasc : U.Pairwise (· < ·) := pair_of (fun i j a b => by
    have := hstrict i j a (by omega)
    rw [hgd i (by omega), hgd j b] at this
    omega)
  have hmem : ∀ i : Nat, (∃ j, j < p.length ∧ p.getD j 0 = (i : Int)) ↔ i ∈ U := fun i => by
    constructor
    · rintro ⟨j, h1, h2⟩
      rw [hgd j (by omega)] at h2
      have : U.getD j 0 = i := by omega
      rw [← this]
      have hj : j < U.length := by omega
      simp only [List.getD, List.getElem?_eq_getElem hj, Option.getD_some]
      exact List.getElem_mem hj
    · intro hi
      obtain ⟨j, hj, e⟩ := List.getElem_of_mem hi
      refine ⟨j, by omega, ?_⟩
      rw [hgd j hj]
      simp [List.getD, hj, e]
  have h24 : ∀ x ∈ U, x < 24 := fun x hx => by
    obtain ⟨j, h1, h2⟩ := (hmem x).2 hx
    have := (isE_true (i1 j h1)).2.2.2
    omega
  have hb : bitsN s = U := bits_asc hasc h24 (fun i => by rw [i3]; congr 1; exact propext (hmem i))
  unfold lstE
  rw [if_pos hS, show ((s : Int)).toNat = s by omega, hb, hU]
/-- A bit of a set is an element. -/
theorem bits_isE' {l : List Int} {m y : Nat} (hs : isS l (m : Int) = true) (hy : y ∈ bitsN m) : isE l (y : Int) = true := by
  obtain ⟨hg, m', e, hm, _⟩ := isS_true hs
  obtain rfl : m = m' := by omega
  have hb := (upK_mem hy).2
  have hlt : y < (prodI l).toNat := by
    rcases Nat.lt_or_ge y (prodI l).toNat with h | h
    · exact h
    · rw [bit_no hm y h] at hb; cases hb
  have hp := (ords_grp hg).prod
  simp only [isE, ordN_grp hg, Bool.and_eq_true, decide_eq_true_eq]
  omega
theorem lst_setS {l : List Int} {a : Nat} (hS : isS l (a : Int) = true) : srt (lstE l a) = true ∧ setS l (lstE l a) (lstE l a).length = some a := by
  obtain ⟨hg, m, e, hm, h24⟩ := isS_true hS
  obtain rfl : a = m := by omega
  have hE : lstE l a = (bitsN a).map fun (x : Nat) => (x : Int) := by unfold lstE; rw [if_pos hS, show ((a : Int)).toNat = a by omega]
  have hlen : (lstE l a).length = (bitsN a).length := by rw [hE]; simp
  have hgd : ∀ j, j < (bitsN a).length → (lstE l a).getD j 0 = (((bitsN a).getD j 0 : Nat) : Int) := fun j hj => by rw [hE, getD_map _ j hj]
  have hp := of_pair (upK_asc' a 24)
  have hst : ∀ i j, i < j → j < (lstE l a).length → (lstE l a).getD i 0 < (lstE l a).getD j 0 := fun i j h1 h2 => by
    have := hp i j h1 (by rw [← show bitsN a = upK a 24 from rfl]; omega)
    rw [hgd i (by omega), hgd j (by omega)]
    unfold bitsN; omega
  refine ⟨(srt_iff _).2 (fun j hj => by have := hst j (j + 1) (by omega) hj; omega), ?_⟩
  have he : ∀ j, j < (lstE l a).length → isE l ((lstE l a).getD j 0) = true := fun j hj => by
    rw [hgd j (by omega)]
    apply bits_isE' hS
    have hj2 : j < (bitsN a).length := by omega
    simp only [List.getD, List.getElem?_eq_getElem hj2, Option.getD_some]
    exact List.getElem_mem hj2
  obtain ⟨s, hs⟩ := setS_asc (Nat.le_refl _) he hst
  obtain ⟨_, _, i3⟩ := setS_info (Nat.le_refl _) hs
  rw [hs]
  congr 1
  apply Nat.eq_of_testBit_eq
  intro i
  rw [i3, bits_bit h24]
  congr 1
  apply propext
  constructor
  · rintro ⟨j, h1, h2⟩
    rw [hgd j (by omega)] at h2
    have : (bitsN a).getD j 0 = i := by omega
    rw [← this]
    have hj : j < (bitsN a).length := by omega
    simp only [List.getD, List.getElem?_eq_getElem hj, Option.getD_some]
    exact List.getElem_mem hj
  · intro hi
    obtain ⟨j, hj, e⟩ := List.getElem_of_mem hi
    refine ⟨j, by omega, ?_⟩
    rw [hgd j hj]
    simp [List.getD, hj, e]
end Go.Proofs.YthoiabdndaoflabDoor
