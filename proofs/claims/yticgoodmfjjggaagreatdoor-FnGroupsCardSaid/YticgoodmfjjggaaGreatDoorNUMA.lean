/- Merged: NumPlain ParGPure PartsC. -/
import Derived.Test.YticgoodmfjjggaaGreatDoorItoa
import Derived.Test.YticgoodmfjjggaaGreatDoorFmtG
import Derived.Lib.Split
import Derived.Lib.SplitLaws
import Derived.Lib.IndexLaws
import Derived.Lib.IndexBytes
namespace Go.Proofs.YticgoodmfjjggaaGreatDoor
open Go.RowKit
def isD (c : UInt8) : Bool := decide (48 ≤ c.toNat) && decide (c.toNat ≤ 57)
def stepN (a : Nat) (c : UInt8) : Nat := if isD c then a * 10 + (c.toNat - 48) else a
def sval (l : List UInt8) : Nat := l.foldl stepN 0
def cnt (l : List UInt8) : Nat := (l.filter isD).length
theorem sval_snoc (l : List UInt8) (c : UInt8) : sval (l ++ [c]) = stepN (sval l) c := by simp [sval]
theorem cnt_snoc (l : List UInt8) (c : UInt8) : cnt (l ++ [c]) = cnt l + (if isD c then 1 else 0) := by
  unfold cnt; rw [List.filter_append]; cases h : isD c <;> simp [h]
theorem cnt_le (l : List UInt8) : cnt l ≤ l.length := List.length_filter_le _ _
theorem isD_iff (c : UInt8) : isD c = true ↔ 48 ≤ c.toNat ∧ c.toNat ≤ 57 := by simp [isD]
theorem step_lt (a b : Nat) (c : UInt8) (h : a < b) : stepN a c < b * 10 := by
  unfold stepN
  split
  · rename_i hd; have := (isD_iff c).1 hd; omega
  · omega
theorem sval_lt (l : List UInt8) : sval l < 10 ^ l.length := by
  have aux : ∀ (l : List UInt8) (a n : Nat), a < 10 ^ n → l.foldl stepN a < 10 ^ (n + l.length) := by
    intro l
    induction l with
    | nil => intro a n h; simpa using h
    | cons c l ih =>
      intro a n h
      have := ih (stepN a c) (n + 1) (by rw [Nat.pow_succ]; exact step_lt a _ c h)
      simpa [Nat.add_assoc, Nat.add_comm 1] using this
  simpa [sval] using aux l 0 0 (by simp)
theorem pow10_le (a b : Nat) (h : a ≤ b) : 10 ^ a ≤ 10 ^ b := Nat.pow_le_pow_right (by decide) h
theorem dig_isD (u : Nat) (h : u < 10) : isD (UInt8.ofNat (48 + u)) = true ∧ (UInt8.ofNat (48 + u)).toNat = 48 + u := by
  have e : (UInt8.ofNat (48 + u)).toNat = 48 + u := by rw [UInt8.toNat_ofNat']; omega
  exact ⟨(isD_iff _).2 (by omega), e⟩
theorem dec_facts (u : Nat) : sval (Lib.decDigits u) = u ∧ (∀ c ∈ Lib.decDigits u, isD c = true) := by
  induction u using Nat.strongRecOn with
  | _ u ih =>
    by_cases h : u < 10
    · rw [Lib.decDigits_one h]
      obtain ⟨h1, h2⟩ := dig_isD u h
      refine ⟨?_, by intro c hc; simp at hc; rw [hc]; simpa using h1⟩
      have e : sval [UInt8.ofNat (48 + u)] = stepN 0 (UInt8.ofNat (48 + u)) := rfl
      rw [e]; unfold stepN; rw [if_pos h1, h2]; omega
    · have e : Lib.decDigits u = Lib.decDigits (u / 10) ++ [UInt8.ofNat (48 + u % 10)] := by rw [Lib.decDigits, dif_neg h]
      obtain ⟨i1, i2⟩ := ih (u / 10) (by omega)
      obtain ⟨h1, h2⟩ := dig_isD (u % 10) (by omega)
      rw [e, sval_snoc, i1]
      refine ⟨by unfold stepN; rw [if_pos h1, h2]; omega, fun c hc => ?_⟩
      rcases List.mem_append.1 hc with hc | hc
      · exact i2 c hc
      · rw [List.mem_singleton.1 hc]; exact h1
theorem cnt_all (l : List UInt8) (h : ∀ c ∈ l, isD c = true) : cnt l = l.length := by
  unfold cnt; rw [List.filter_eq_self.2 h]
def negL : List UInt8 → Bool
  | [] => false
  | c :: _ => c == 45
def vOf (l : List UInt8) : Int := if negL l then -(sval l : Int) else (sval l : Int)
def digL (l : List UInt8) : List UInt8 := if negL l then l.tail else l
theorem isD45 : isD 45 = false := by decide
theorem sval_neg (l : List UInt8) : sval (45 :: l) = sval l := rfl
theorem cnt_neg (l : List UInt8) : cnt (45 :: l) = cnt l := by unfold cnt; simp [isD45]
theorem negL_cons {l : List UInt8} (h : negL l = true) : l = 45 :: l.tail := by
  cases l with
  | nil => cases h
  | cons c l => simp [negL] at h; rw [h]; rfl
theorem sval_digL (l : List UInt8) : sval (digL l) = sval l := by
  unfold digL
  cases h : negL l with
  | true =>
    have := negL_cons h
    rw [if_pos rfl]
    conv => rhs; rw [this]
    rw [sval_neg]
  | false => rfl
theorem cnt_digL (l : List UInt8) : cnt (digL l) = cnt l := by
  unfold digL
  cases h : negL l with
  | true =>
    have := negL_cons h
    rw [if_pos rfl]
    conv => rhs; rw [this]
    rw [cnt_neg]
  | false => rfl
theorem dec_head (u : Nat) : negL (Lib.decDigits u) = false := by
  cases h : Lib.decDigits u with
  | nil => rfl
  | cons c l =>
    have := (dec_facts u).2 c (by rw [h]; simp)
    simp only [negL, beq_eq_false_iff_ne, ne_eq]
    intro e; rw [e] at this; revert this; decide
theorem itoa_shape (n : Int) : vOf (Lib.itoa n) = n ∧ digL (Lib.itoa n) = Lib.decDigits n.natAbs := by
  by_cases hn : n < 0
  · obtain ⟨u, rfl⟩ : ∃ u : Nat, n = -(u : Int) := ⟨n.natAbs, by omega⟩
    rw [Lib.itoa_neg u (by omega)]
    have h45 : negL (45 :: Lib.decDigits u) = true := rfl
    unfold vOf digL
    rw [h45, if_pos rfl, if_pos rfl, sval_neg, (dec_facts u).1]
    refine ⟨rfl, ?_⟩
    show Lib.decDigits u = _
    congr 1; omega
  · obtain ⟨u, rfl⟩ : ∃ u : Nat, n = (u : Int) := ⟨n.toNat, by omega⟩
    rw [Lib.itoa_nonneg u]
    unfold vOf digL
    rw [dec_head u, (dec_facts u).1]
    exact ⟨rfl, by simp⟩
/-- What the reader of digits takes. -/
def pdB (l : List UInt8) : Bool := decide (1 ≤ l.length) && decide (l.length ≤ 9) && l.all isD
/-- What both texts take. -/
def accB (l : List UInt8) : Bool := decide (cnt l ≤ 9) && decide (l.length ≤ 10) && (Lib.itoa (vOf l) == l)
def resV (l : List UInt8) : Int := if accB l then vOf l else 0
theorem len_digL (l : List UInt8) : l.length ≤ (digL l).length + 1 := by
  unfold digL; split
  · cases l <;> simp
  · omega
theorem acc_iff (l : List UInt8) : accB l = (pdB (digL l) && (Lib.itoa (vOf l) == l)) := by
  cases he : (Lib.itoa (vOf l) == l) with
  | false => simp [accB, he]
  | true =>
    have e : Lib.itoa (vOf l) = l := by simpa using he
    have hd : digL l = Lib.decDigits (vOf l).natAbs := by
      have h := (itoa_shape (vOf l)).2
      rw [e] at h
      exact h
    have hall := (dec_facts (vOf l).natAbs).2
    have hc : cnt l = (digL l).length := by rw [← cnt_digL, hd, cnt_all _ hall]
    have h1 : 1 ≤ (digL l).length := by rw [hd, Lib.decDigits_length]; exact Lib.nDigits_pos _
    have h2 := len_digL l
    have hA : (digL l).all isD = true := by rw [hd]; exact List.all_eq_true.2 hall
    unfold accB pdB
    rw [he, hA, hc]
    by_cases h9 : (digL l).length ≤ 9
    · have h10 : l.length ≤ 10 := by omega
      simp [h9, h10, h1]
    · simp [h9]
end Go.Proofs.YticgoodmfjjggaaGreatDoor

namespace Go.Proofs.YticgoodmfjjggaaGreatDoor
/-- The pieces of a text between letters x; cur stands ahead of the first. -/
def partsF (cur : List UInt8) : List UInt8 → List (List UInt8)
  | [] => [cur]
  | c :: r => if c = 120 then cur :: partsF [] r else partsF (cur ++ [c]) r
theorem parts_ne (cur s : List UInt8) : partsF cur s ≠ [] := by
  induction s generalizing cur with
  | nil => simp [partsF]
  | cons c r ih => unfold partsF; split
                   · simp
                   · exact ih _
theorem parts_miss (cur s : List UInt8) (h : ∀ k : Nat, s[k]? ≠ some 120) : partsF cur s = [cur ++ s] := by
  induction s generalizing cur with
  | nil => simp [partsF]
  | cons c r ih =>
    have h0 := h 0
    simp at h0
    unfold partsF
    rw [if_neg h0, ih _ (fun k => by have := h (k + 1); simpa using this)]
    simp
theorem parts_hit (cur s : List UInt8) (o : Nat) (h : s[o]? = some 120) (hn : ∀ k, k < o → s[k]? ≠ some 120) : partsF cur s = (cur ++ s.take o) :: partsF [] (s.drop (o + 1)) := by
  induction s generalizing cur o with
  | nil => simp at h
  | cons c r ih =>
    cases o with
    | zero =>
      simp at h
      rw [partsF, if_pos h]; simp
    | succ o =>
      have h0 := hn 0 (by omega)
      simp at h0
      rw [partsF, if_neg h0, ih _ o (by simpa using h) (fun k hk => by have := hn (k + 1) (by omega); simpa using this)]
      simp
theorem join_parts (cur s : List UInt8) : Lib.join (partsF cur s) [120] = cur ++ s := by
  induction s generalizing cur with
  | nil => simp [partsF, Lib.join]
  | cons c r ih =>
    unfold partsF
    split
    · next hc =>
      subst hc
      have h1 := ih []
      cases hp : partsF [] r with
      | nil => exact absurd hp (parts_ne _ _)
      | cons x t =>
        rw [hp] at h1
        rw [Lib.join_cons] at h1 ⊢
        simp [Lib.joinTail] at *
        rw [h1]
    · rw [ih]; simp
/-- What the document's reading of a group does behind len(s) ≤ 10. -/
def specLoop (cur : List UInt8) (acc : List Int) : List UInt8 → Option (List Int)
  | [] => if accB cur = true then some (acc ++ [resV cur]) else none
  | c :: r => if c = 120 then (if accB cur = true then specLoop [] (acc ++ [resV cur]) r else none) else specLoop (cur ++ [c]) acc r
def allAcc (P : List (List UInt8)) : Bool := P.all accB
theorem spec_parts (cur : List UInt8) (acc : List Int) (s : List UInt8) : specLoop cur acc s = if allAcc (partsF cur s) = true then some (acc ++ (partsF cur s).map resV) else none := by
  induction s generalizing cur acc with
  | nil => simp [specLoop, partsF, allAcc]
  | cons c r ih =>
    unfold specLoop partsF
    split
    · cases ha : accB cur with
      | true => simp [ih, allAcc, ha]
      | false => simp [allAcc, ha]
    · rw [ih]
theorem idx_cases (s : List UInt8) : (Lib.index s [120] = -1 ∧ partsF [] s = [s]) ∨ ∃ o : Nat, Lib.index s [120] = o ∧ partsF [] s = s.take o :: partsF [] (s.drop (o + 1)) := by
  rw [Lib.index_one]
  by_cases h : Lib.indexByte s 120 = -1
  · exact .inl ⟨h, by rw [parts_miss _ _ (Lib.indexByte_none h)]; simp⟩
  · have hge := Lib.indexByte_ge s 120
    obtain ⟨o, ho⟩ : ∃ o : Nat, Lib.indexByte s 120 = o := ⟨(Lib.indexByte s 120).toNat, by omega⟩
    obtain ⟨h1, h2⟩ := Lib.indexByte_some ho
    exact .inr ⟨o, ho, by rw [parts_hit _ _ o h1 h2]; simp⟩
theorem split_few (k : Nat) (s : List UInt8) : ((partsF [] s).length ≤ k + 1 → Lib.splitK [120] 0 k s = partsF [] s) ∧ (k + 1 < (partsF [] s).length → (Lib.splitK [120] 0 k s).length = k + 1) := by
  induction k generalizing s with
  | zero =>
    rcases idx_cases s with ⟨_, hp⟩ | ⟨o, _, hp⟩
    · rw [hp]; exact ⟨fun _ => rfl, fun _ => rfl⟩
    · refine ⟨fun h => ?_, fun _ => rfl⟩
      rw [hp] at h
      have := List.length_pos_iff.2 (parts_ne [] (s.drop (o + 1)))
      rw [List.length_cons] at h; omega
  | succ k ih =>
    rcases idx_cases s with ⟨hi, hp⟩ | ⟨o, hi, hp⟩
    · have hs : Lib.splitK [120] 0 (k + 1) s = [s] := by rw [Lib.splitK, hi]; rfl
      rw [hs, hp]
      exact ⟨fun _ => rfl, fun h => by simp at h⟩
    · have hs : Lib.splitK [120] 0 (k + 1) s = s.take o :: Lib.splitK [120] 0 k (s.drop (o + 1)) := by
        rw [Lib.splitK, hi, if_neg (by simp)]; simp
      rw [hs, hp]
      obtain ⟨h1, h2⟩ := ih (s.drop (o + 1))
      exact ⟨fun h => by rw [h1 (by simpa using h)], fun h => by rw [List.length_cons, h2 (by simpa using h)]⟩
/-- The document's reading of a text as a group. -/
def specR (s : List UInt8) : Option (List Int) :=
  if s = [49] then some [] else if 10 < s.length then none else
    match specLoop [] [] s with
    | none => none
    | some acc => if s = [] then none else if fmtG acc = s then some acc else none
/-- The program's reading. -/
def implR (s : List UInt8) : Option (List Int) :=
  if s = [49] then some [] else
    if allAcc (Lib.splitK [120] 0 3 s) = true then (if grpB ((Lib.splitK [120] 0 3 s).map resV) = true then some ((Lib.splitK [120] 0 3 s).map resV) else none) else none
theorem acc_text {x : List UInt8} (h : accB x = true) : Lib.itoa (resV x) = x := by
  unfold resV
  rw [if_pos h]
  unfold accB at h
  simp only [Bool.and_eq_true, beq_iff_eq] at h
  exact h.2
theorem acc_texts {P : List (List UInt8)} (h : allAcc P = true) : (P.map resV).map Lib.itoa = P := by
  induction P with
  | nil => rfl
  | cons x t ih =>
    simp only [allAcc, List.all_cons, Bool.and_eq_true] at h
    rw [List.map_cons, List.map_cons, acc_text h.1, ih h.2]
theorem two_digits {n : Int} (h0 : 2 ≤ n) (h1 : n ≤ 24) : (Lib.itoa n).length ≤ 2 := by
  obtain ⟨u, rfl⟩ : ∃ u : Nat, n = u := ⟨n.toNat, by omega⟩
  rw [Lib.itoa_nonneg, Lib.decDigits_length]
  by_cases h : u < 10
  · rw [Lib.nDigits_small h]; omega
  · rw [Lib.nDigits_big h, Lib.nDigits_small (by omega)]; omega
theorem txt_short {l : List Int} (h : grpB l = true) (k : Nat) (hk : k ≤ l.length) : (txtK l k).length ≤ 3 * k := by
  induction k with
  | zero => rw [txt_zero]; simp
  | succ k ih =>
    have ho := ord_at h (k := k) (by omega)
    have hi := two_digits ho.1 ho.2
    by_cases h0 : k = 0
    · subst h0; rw [txt_one _ (by omega)]; omega
    · rw [txt_succ _ _ (by omega) (by omega), List.length_append, List.length_append]
      have := ih (by omega)
      simp only [List.length_cons, List.length_nil]
      omega
theorem txt_tight {l : List Int} (h : grpB l = true) : (txtK l l.length).length ≤ 10 := by
  have h1 := txt_short h l.length (Nat.le_refl _)
  have := (grpB_true h).1
  omega
theorem txt_parts {P : List (List UInt8)} (h : allAcc P = true) : txtK (P.map resV) (P.map resV).length = Lib.join P [120] := by
  unfold txtK; rw [List.take_length, acc_texts h]
theorem both_read (s : List UInt8) : implR s = specR s := by
  unfold implR specR
  by_cases h49 : s = [49]
  · rw [if_pos h49, if_pos h49]
  · rw [if_neg h49, if_neg h49]
    have hj := join_parts [] s
    simp only [List.nil_append] at hj
    rw [spec_parts]
    generalize hP : partsF [] s = P at hj
    have hPne : P ≠ [] := by rw [← hP]; exact parts_ne _ _
    obtain ⟨f1, f2⟩ := split_few 3 s
    rw [hP] at f1 f2
    by_cases hlen : P.length ≤ 4
    · rw [f1 hlen]
      cases ha : allAcc P with
      | false => simp
      | true =>
        simp only [if_pos, List.nil_append]
        have hne : P.map resV ≠ [] := by simpa using hPne
        have ht := txt_parts ha
        rw [hj] at ht
        cases hg : grpB (P.map resV) with
        | true =>
          have hf : fmtG (P.map resV) = s := by unfold fmtG; rw [if_pos hg, if_neg hne, ht]
          have hs : s.length ≤ 10 := by rw [← ht]; exact txt_tight hg
          have hs0 : s ≠ [] := by rw [← ht]; exact txt_ne _ (List.length_pos_iff.2 hne) (Nat.le_refl _)
          rw [if_pos rfl, if_neg (by omega), if_neg hs0, if_pos hf]
        | false =>
          have hf : fmtG (P.map resV) = [] := by unfold fmtG; rw [if_neg (by simp [hg])]
          rw [if_neg (by simp), hf]
          split
          · rfl
          · split
            · rfl
            · next h => rw [if_neg (fun e => h e.symm)]
    · have h4 := f2 (by omega)
      have hno : ∀ Q : List (List UInt8), 3 < Q.length → grpB (Q.map resV) = false := fun Q hQ => grpB_long (by simpa using hQ)
      rw [hno _ (by omega)]
      cases ha : allAcc P with
      | false => simp
      | true =>
        have hf : fmtG (P.map resV) = [] := by unfold fmtG; rw [if_neg (by simp [hno P (by omega)])]
        simp only [if_pos, List.nil_append, hf]
        split
        · split
          · next h => simp at h
          · split
            · rfl
            · split
              · rfl
              · next h => rw [if_neg (fun e => h e.symm)]
        · split
          · rfl
          · split
            · rfl
            · next h => rw [if_neg (fun e => h e.symm)]
end Go.Proofs.YticgoodmfjjggaaGreatDoor

namespace Go.Proofs.YticgoodmfjjggaaGreatDoor
/-- The pieces of a text between bytes c; cur stands ahead of the first. -/
def partsC (c : UInt8) (cur : List UInt8) : List UInt8 → List (List UInt8)
  | [] => [cur]
  | x :: r => if x = c then cur :: partsC c [] r else partsC c (cur ++ [x]) r
theorem partsC_ne (c : UInt8) (cur s : List UInt8) : partsC c cur s ≠ [] := by
  induction s generalizing cur with
  | nil => simp [partsC]
  | cons y r ih => unfold partsC; split
                   · simp
                   · exact ih _
theorem partsC_miss (c : UInt8) (cur s : List UInt8) (h : ∀ k : Nat, s[k]? ≠ some c) : partsC c cur s = [cur ++ s] := by
  induction s generalizing cur with
  | nil => simp [partsC]
  | cons y r ih =>
    have h0 := h 0
    simp at h0
    unfold partsC
    rw [if_neg h0, ih _ (fun k => by have := h (k + 1); simpa using this)]
    simp
theorem partsC_hit (c : UInt8) (cur s : List UInt8) (o : Nat) (h : s[o]? = some c) (hn : ∀ k, k < o → s[k]? ≠ some c) : partsC c cur s = (cur ++ s.take o) :: partsC c [] (s.drop (o + 1)) := by
  induction s generalizing cur o with
  | nil => simp at h
  | cons y r ih =>
    cases o with
    | zero =>
      simp at h
      rw [partsC, if_pos h]; simp
    | succ o =>
      have h0 := hn 0 (by omega)
      simp at h0
      rw [partsC, if_neg h0, ih _ o (by simpa using h) (fun k hk => by have := hn (k + 1) (by omega); simpa using this)]
      simp
theorem joinC_parts (c : UInt8) (cur s : List UInt8) : Lib.join (partsC c cur s) [c] = cur ++ s := by
  induction s generalizing cur with
  | nil => simp [partsC, Lib.join]
  | cons y r ih =>
    unfold partsC
    split
    · next hc =>
      rw [hc]
      have h1 := ih []
      cases hp : partsC c [] r with
      | nil => exact absurd hp (partsC_ne c _ _)
      | cons x t =>
        rw [hp] at h1
        rw [Lib.join_cons] at h1 ⊢
        simp [Lib.joinTail] at *
        rw [h1]
    · rw [ih]; simp
theorem idxC_cases (c : UInt8) (s : List UInt8) : (Lib.index s [c] = -1 ∧ partsC c [] s = [s]) ∨ ∃ o : Nat, Lib.index s [c] = o ∧ partsC c [] s = s.take o :: partsC c [] (s.drop (o + 1)) := by
  rw [Lib.index_one]
  by_cases h : Lib.indexByte s c = -1
  · exact .inl ⟨h, by rw [partsC_miss c _ _ (Lib.indexByte_none h)]; simp⟩
  · have hge := Lib.indexByte_ge s c
    obtain ⟨o, ho⟩ : ∃ o : Nat, Lib.indexByte s c = o := ⟨(Lib.indexByte s c).toNat, by omega⟩
    obtain ⟨h1, h2⟩ := Lib.indexByte_some ho
    exact .inr ⟨o, ho, by rw [partsC_hit c _ _ o h1 h2]; simp⟩
theorem splitC_few (c : UInt8) (k : Nat) (s : List UInt8) : ((partsC c [] s).length ≤ k + 1 → Lib.splitK [c] 0 k s = partsC c [] s) ∧ (k + 1 < (partsC c [] s).length → (Lib.splitK [c] 0 k s).length = k + 1) := by
  induction k generalizing s with
  | zero =>
    rcases idxC_cases c s with ⟨_, hp⟩ | ⟨o, _, hp⟩
    · rw [hp]; exact ⟨fun _ => rfl, fun _ => rfl⟩
    · refine ⟨fun h => ?_, fun _ => rfl⟩
      rw [hp] at h
      have := List.length_pos_iff.2 (partsC_ne c [] (s.drop (o + 1)))
      rw [List.length_cons] at h; omega
  | succ k ih =>
    rcases idxC_cases c s with ⟨hi, hp⟩ | ⟨o, hi, hp⟩
    · have hs : Lib.splitK [c] 0 (k + 1) s = [s] := by rw [Lib.splitK, hi]; rfl
      rw [hs, hp]
      exact ⟨fun _ => rfl, fun h => by simp at h⟩
    · have hs : Lib.splitK [c] 0 (k + 1) s = s.take o :: Lib.splitK [c] 0 k (s.drop (o + 1)) := by
        rw [Lib.splitK, hi, if_neg (by simp)]; simp
      rw [hs, hp]
      obtain ⟨h1, h2⟩ := ih (s.drop (o + 1))
      exact ⟨fun h => by rw [h1 (by simpa using h)], fun h => by rw [List.length_cons, h2 (by simpa using h)]⟩
theorem partsC_len (c : UInt8) (cur s : List UInt8) : (partsC c cur s).length ≤ s.length + 1 := by
  induction s generalizing cur with
  | nil => simp [partsC]
  | cons y r ih =>
    unfold partsC
    split
    · have := ih []; simp; omega
    · have := ih (cur ++ [y]); simp; omega
/-- What the program's reading of numbers between bytes c answers, at most m of them. -/
def splR (c : UInt8) (m : Nat) (s : List UInt8) : Option (List Int) :=
  if (Lib.splitK [c] 0 m s).length ≤ m then (if allAcc (Lib.splitK [c] 0 m s) = true then some ((Lib.splitK [c] 0 m s).map resV) else none) else none
theorem split_smallC (c : UInt8) (k : Nat) (s x : List UInt8) (h : x ∈ Lib.splitK [c] 0 k s) : x.length ≤ s.length := by
  induction k generalizing s with
  | zero => simp [Lib.splitK] at h; rw [h]; exact Nat.le_refl _
  | succ k ih =>
    unfold Lib.splitK at h
    split at h
    · simp at h; rw [h]; exact Nat.le_refl _
    · rcases List.mem_cons.1 h with rfl | h
      · simp; omega
      · have := ih _ h
        rw [List.length_drop] at this
        omega
end Go.Proofs.YticgoodmfjjggaaGreatDoor
