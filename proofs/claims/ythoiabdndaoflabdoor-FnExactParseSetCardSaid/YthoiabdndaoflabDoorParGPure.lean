/- Plain mathematics of the texts of groups: a text that reads as orders of a group is the text of these orders, and no other text is read. -/
import Derived.Test.YthoiabdndaoflabDoorFmtG
import Derived.Test.YthoiabdndaoflabDoorNumPlain
import Derived.Lib.Split
import Derived.Lib.SplitLaws
import Derived.Lib.IndexLaws
import Derived.Lib.IndexBytes
namespace Go.Proofs.YthoiabdndaoflabDoor
/-- The pieces of a text between letters x; cur stands ahead of the first. -/
def partsF (cur : List UInt8) : List UInt8 → List (List UInt8)
  | [] => [cur]
  | c :: r => if c = 120 then cur :: partsF [] r else partsF (cur ++ [c]) r
theorem parts_ne (cur s : List UInt8) : partsF cur s ≠ [] := by
  induction s generalizing cur with
  | nil => simp [partsF]
  | cons c r ih => unfold partsF; split
                   · simp
                   · exact ih _
theorem parts_miss (cur s : List UInt8) (h : ∀ k : Nat, s[k]? ≠ some 120) : partsF cur s = [cur ++ s] := by
  induction s generalizing cur with
  | nil => simp [partsF]
  | cons c r ih =>
    have h0 := h 0
    simp at h0
    unfold partsF
    rw [if_neg h0, ih _ (fun k => by have := h (k + 1); simpa using this)]
    simp
theorem parts_hit (cur s : List UInt8) (o : Nat) (h : s[o]? = some 120) (hn : ∀ k, k < o → s[k]? ≠ some 120) : partsF cur s = (cur ++ s.take o) :: partsF [] (s.drop (o + 1)) := by
  induction s generalizing cur o with
  | nil => simp at h
  | cons c r ih =>
    cases o with
    | zero =>
      simp at h
      rw [partsF, if_pos h]; simp
    | succ o =>
      have h0 := hn 0 (by omega)
      simp at h0
      rw [partsF, if_neg h0, ih _ o (by simpa using h) (fun k hk => by have := hn (k + 1) (by omega); simpa using this)]
      simp
theorem join_parts (cur s : List UInt8) : Lib.join (partsF cur s) [120] = cur ++ s := by
  induction s generalizing cur with
  | nil => simp [partsF, Lib.join]
  | cons c r ih =>
    unfold partsF
    split
    · next hc =>
      subst hc
      have h1 := ih []
      cases hp : partsF [] r with
      | nil => exact absurd hp (parts_ne _ _)
      | cons x t =>
        rw [hp] at h1
        rw [Lib.join_cons] at h1 ⊢
        simp [Lib.joinTail] at *
        rw [h1]
    · rw [ih]; simp
/-- What the document's reading of a group does behind len(s) ≤ 10. -/
def specLoop (cur : List UInt8) (acc : List Int) : List UInt8 → Option (List Int)
  | [] => if accB cur = true then some (acc ++ [resV cur]) else none
  | c :: r => if c = 120 then (if accB cur = true then specLoop [] (acc ++ [resV cur]) r else none) else specLoop (cur ++ [c]) acc r
def allAcc (P : List (List UInt8)) : Bool := P.all accB
theorem spec_parts (cur : List UInt8) (acc : List Int) (s : List UInt8) : specLoop cur acc s = if allAcc (partsF cur s) = true then some (acc ++ (partsF cur s).map resV) else none := by
  induction s generalizing cur acc with
  | nil => simp [specLoop, partsF, allAcc]
  | cons c r ih =>
    unfold specLoop partsF
    split
    · cases ha : accB cur with
      | true => simp [ih, allAcc, ha]
      | false => simp [allAcc, ha]
    · rw [ih]
theorem idx_cases (s : List UInt8) : (Lib.index s [120] = -1 ∧ partsF [] s = [s]) ∨ ∃ o : Nat, Lib.index s [120] = o ∧ partsF [] s = s.take o :: partsF [] (s.drop (o + 1)) := by
  rw [Lib.index_one]
  by_cases h : Lib.indexByte s 120 = -1
  · exact .inl ⟨h, by rw [parts_miss _ _ (Lib.indexByte_none h)]; simp⟩
  · have hge := Lib.indexByte_ge s 120
    obtain ⟨o, ho⟩ : ∃ o : Nat, Lib.indexByte s 120 = o := ⟨(Lib.indexByte s 120).toNat, by omega⟩
    obtain ⟨h1, h2⟩ := Lib.indexByte_some ho
    exact .inr ⟨o, ho, by rw [parts_hit _ _ o h1 h2]; simp⟩
theorem split_few (k : Nat) (s : List UInt8) : ((partsF [] s).length ≤ k + 1 → Lib.splitK [120] 0 k s = partsF [] s) ∧ (k + 1 < (partsF [] s).length → (Lib.splitK [120] 0 k s).length = k + 1) := by
  induction k generalizing s with
  | zero =>
    rcases idx_cases s with ⟨_, hp⟩ | ⟨o, _, hp⟩
    · rw [hp]; exact ⟨fun _ => rfl, fun _ => rfl⟩
    · refine ⟨fun h => ?_, fun _ => rfl⟩
      rw [hp] at h
      have := List.length_pos_iff.2 (parts_ne [] (s.drop (o + 1)))
      rw [List.length_cons] at h; omega
  | succ k ih =>
    rcases idx_cases s with ⟨hi, hp⟩ | ⟨o, hi, hp⟩
    · have hs : Lib.splitK [120] 0 (k + 1) s = [s] := by rw [Lib.splitK, hi]; rfl
      rw [hs, hp]
      exact ⟨fun _ => rfl, fun h => by simp at h⟩
    · have hs : Lib.splitK [120] 0 (k + 1) s = s.take o :: Lib.splitK [120] 0 k (s.drop (o + 1)) := by
        rw [Lib.splitK, hi, if_neg (by simp)]; simp
      rw [hs, hp]
      obtain ⟨h1, h2⟩ := ih (s.drop (o + 1))
      exact ⟨fun h => by rw [h1 (by simpa using h)], fun h => by rw [List.length_cons, h2 (by simpa using h)]⟩
/-- The document's reading of a text as a group. -/
def specR (s : List UInt8) : Option (List Int) :=
  if s = [49] then some [] else if 10 < s.length then none else
    match specLoop [] [] s with
    | none => none
    | some acc => if s = [] then none else if fmtG acc = s then some acc else none
/-- The program's reading. -/
def implR (s : List UInt8) : Option (List Int) :=
  if s = [49] then some [] else
    if allAcc (Lib.splitK [120] 0 3 s) = true then (if grpB ((Lib.splitK [120] 0 3 s).map resV) = true then some ((Lib.splitK [120] 0 3 s).map resV) else none) else none
theorem acc_text {x : List UInt8} (h : accB x = true) : Lib.itoa (resV x) = x := by
  unfold resV
  rw [if_pos h]
  unfold accB at h
  simp only [Bool.and_eq_true, beq_iff_eq] at h
  exact h.2
theorem acc_texts {P : List (List UInt8)} (h : allAcc P = true) : (P.map resV).map Lib.itoa = P := by
  induction P with
  | nil => rfl
  | cons x t ih =>
    simp only [allAcc, List.all_cons, Bool.and_eq_true] at h
    rw [List.map_cons, List.map_cons, acc_text h.1, ih h.2]
theorem two_digits {n : Int} (h0 : 2 ≤ n) (h1 : n ≤ 24) : (Lib.itoa n).length ≤ 2 := by
  obtain ⟨u, rfl⟩ : ∃ u : Nat, n = u := ⟨n.toNat, by omega⟩
  rw [Lib.itoa_nonneg, Lib.decDigits_length]
  by_cases h : u < 10
  · rw [Lib.nDigits_small h]; omega
  · rw [Lib.nDigits_big h, Lib.nDigits_small (by omega)]; omega
theorem txt_short {l : List Int} (h : grpB l = true) (k : Nat) (hk : k ≤ l.length) : (txtK l k).length ≤ 3 * k := by
  induction k with
  | zero => rw [txt_zero]; simp
  | succ k ih =>
    have ho := ord_at h (k := k) (by omega)
    have hi := two_digits ho.1 ho.2
    by_cases h0 : k = 0
    · subst h0; rw [txt_one _ (by omega)]; omega
    · rw [txt_succ _ _ (by omega) (by omega), List.length_append, List.length_append]
      have := ih (by omega)
      simp only [List.length_cons, List.length_nil]
      omega
theorem txt_tight {l : List Int} (h : grpB l = true) : (txtK l l.length).length ≤ 10 := by
  have h1 := txt_short h l.length (Nat.le_refl _)
  have := (grpB_true h).1
  omega
theorem txt_parts {P : List (List UInt8)} (h : allAcc P = true) : txtK (P.map resV) (P.map resV).length = Lib.join P [120] := by
  unfold txtK; rw [List.take_length, acc_texts h]
theorem both_read (s : List UInt8) : implR s = specR s := by
  unfold implR specR
  by_cases h49 : s = [49]
  · rw [if_pos h49, if_pos h49]
  · rw [if_neg h49, if_neg h49]
    have hj := join_parts [] s
    simp only [List.nil_append] at hj
    rw [spec_parts]
    generalize hP : partsF [] s = P at hj
    have hPne : P ≠ [] := by rw [← hP]; exact parts_ne _ _
    obtain ⟨f1, f2⟩ := split_few 3 s
    rw [hP] at f1 f2
    by_cases hlen : P.length ≤ 4
    · rw [f1 hlen]
      cases ha : allAcc P with
      | false => simp
      | true =>
        simp only [if_pos, List.nil_append]
        have hne : P.map resV ≠ [] := by simpa using hPne
        have ht := txt_parts ha
        rw [hj] at ht
        cases hg : grpB (P.map resV) with
        | true =>
          have hf : fmtG (P.map resV) = s := by unfold fmtG; rw [if_pos hg, if_neg hne, ht]
          have hs : s.length ≤ 10 := by rw [← ht]; exact txt_tight hg
          have hs0 : s ≠ [] := by rw [← ht]; exact txt_ne _ (List.length_pos_iff.2 hne) (Nat.le_refl _)
          rw [if_pos rfl, if_neg (by omega), if_neg hs0, if_pos hf]
        | false =>
          have hf : fmtG (P.map resV) = [] := by unfold fmtG; rw [if_neg (by simp [hg])]
          rw [if_neg (by simp), hf]
          split
          · rfl
          · split
            · rfl
            · next h => rw [if_neg (fun e => h e.symm)]
    · have h4 := f2 (by omega)
      have hno : ∀ Q : List (List UInt8), 3 < Q.length → grpB (Q.map resV) = false := fun Q hQ => grpB_long (by simpa using hQ)
      rw [hno _ (by omega)]
      cases ha : allAcc P with
      | false => simp
      | true =>
        have hf : fmtG (P.map resV) = [] := by unfold fmtG; rw [if_neg (by simp [hno P (by omega)])]
        simp only [if_pos, List.nil_append, hf]
        split
        · split
          · next h => simp at h
          · split
            · rfl
            · split
              · rfl
              · next h => rw [if_neg (fun e => h e.symm)]
        · split
          · rfl
          · split
            · rfl
            · next h => rw [if_neg (fun e => h e.symm)]
end Go.Proofs.YthoiabdndaoflabDoor
