/- The pieces of a text at a byte: plain mathematics. -/
import Derived.Test.YthoiabdndaoflabDoorParGPure
namespace Go.Proofs.YthoiabdndaoflabDoor
/-- The pieces of a text between bytes c; cur stands ahead of the first. -/
def partsC (c : UInt8) (cur : List UInt8) : List UInt8 → List (List UInt8)
  | [] => [cur]
  | x :: r => if x = c then cur :: partsC c [] r else partsC c (cur ++ [x]) r
theorem partsC_ne (c : UInt8) (cur s : List UInt8) : partsC c cur s ≠ [] := by
  induction s generalizing cur with
  | nil => simp [partsC]
  | cons y r ih => unfold partsC; split
                   · simp
                   · exact ih _
theorem partsC_miss (c : UInt8) (cur s : List UInt8) (h : ∀ k : Nat, s[k]? ≠ some c) : partsC c cur s = [cur ++ s] := by
  induction s generalizing cur with
  | nil => simp [partsC]
  | cons y r ih =>
    have h0 := h 0
    simp at h0
    unfold partsC
    rw [if_neg h0, ih _ (fun k => by have := h (k + 1); simpa using this)]
    simp
theorem partsC_hit (c : UInt8) (cur s : List UInt8) (o : Nat) (h : s[o]? = some c) (hn : ∀ k, k < o → s[k]? ≠ some c) : partsC c cur s = (cur ++ s.take o) :: partsC c [] (s.drop (o + 1)) := by
  induction s generalizing cur o with
  | nil => simp at h
  | cons y r ih =>
    cases o with
    | zero =>
      simp at h
      rw [partsC, if_pos h]; simp
    | succ o =>
      have h0 := hn 0 (by omega)
      simp at h0
      rw [partsC, if_neg h0, ih _ o (by simpa using h) (fun k hk => by have := hn (k + 1) (by omega); simpa using this)]
      simp
theorem joinC_parts (c : UInt8) (cur s : List UInt8) : Lib.join (partsC c cur s) [c] = cur ++ s := by
  induction s generalizing cur with
  | nil => simp [partsC, Lib.join]
  | cons y r ih =>
    unfold partsC
    split
    · next hc =>
      rw [hc]
      have h1 := ih []
      cases hp : partsC c [] r with
      | nil => exact absurd hp (partsC_ne c _ _)
      | cons x t =>
        rw [hp] at h1
        rw [Lib.join_cons] at h1 ⊢
        simp [Lib.joinTail] at *
        rw [h1]
    · rw [ih]; simp
theorem idxC_cases (c : UInt8) (s : List UInt8) : (Lib.index s [c] = -1 ∧ partsC c [] s = [s]) ∨ ∃ o : Nat, Lib.index s [c] = o ∧ partsC c [] s = s.take o :: partsC c [] (s.drop (o + 1)) := by
  rw [Lib.index_one]
  by_cases h : Lib.indexByte s c = -1
  · exact .inl ⟨h, by rw [partsC_miss c _ _ (Lib.indexByte_none h)]; simp⟩
  · have hge := Lib.indexByte_ge s c
    obtain ⟨o, ho⟩ : ∃ o : Nat, Lib.indexByte s c = o := ⟨(Lib.indexByte s c).toNat, by omega⟩
    obtain ⟨h1, h2⟩ := Lib.indexByte_some ho
    exact .inr ⟨o, ho, by rw [partsC_hit c _ _ o h1 h2]; simp⟩
theorem splitC_few (c : UInt8) (k : Nat) (s : List UInt8) : ((partsC c [] s).length ≤ k + 1 → Lib.splitK [c] 0 k s = partsC c [] s) ∧ (k + 1 < (partsC c [] s).length → (Lib.splitK [c] 0 k s).length = k + 1) := by
  induction k generalizing s with
  | zero =>
    rcases idxC_cases c s with ⟨_, hp⟩ | ⟨o, _, hp⟩
    · rw [hp]; exact ⟨fun _ => rfl, fun _ => rfl⟩
    · refine ⟨fun h => ?_, fun _ => rfl⟩
      rw [hp] at h
      have := List.length_pos_iff.2 (partsC_ne c [] (s.drop (o + 1)))
      rw [List.length_cons] at h; omega
  | succ k ih =>
    rcases idxC_cases c s with ⟨hi, hp⟩ | ⟨o, hi, hp⟩
    · have hs : Lib.splitK [c] 0 (k + 1) s = [s] := by rw [Lib.splitK, hi]; rfl
      rw [hs, hp]
      exact ⟨fun _ => rfl, fun h => by simp at h⟩
    · have hs : Lib.splitK [c] 0 (k + 1) s = s.take o :: Lib.splitK [c] 0 k (s.drop (o + 1)) := by
        rw [Lib.splitK, hi, if_neg (by simp)]; simp
      rw [hs, hp]
      obtain ⟨h1, h2⟩ := ih (s.drop (o + 1))
      exact ⟨fun h => by rw [h1 (by simpa using h)], fun h => by rw [List.length_cons, h2 (by simpa using h)]⟩
theorem partsC_len (c : UInt8) (cur s : List UInt8) : (partsC c cur s).length ≤ s.length + 1 := by
  induction s generalizing cur with
  | nil => simp [partsC]
  | cons y r ih =>
    unfold partsC
    split
    · have := ih []; simp; omega
    · have := ih (cur ++ [y]); simp; omega
/-- What the program's reading of numbers between bytes c answers, at most m of them. -/
def splR (c : UInt8) (m : Nat) (s : List UInt8) : Option (List Int) :=
  if (Lib.splitK [c] 0 m s).length ≤ m then (if allAcc (Lib.splitK [c] 0 m s) = true then some ((Lib.splitK [c] 0 m s).map resV) else none) else none
theorem split_smallC (c : UInt8) (k : Nat) (s x : List UInt8) (h : x ∈ Lib.splitK [c] 0 k s) : x.length ≤ s.length := by
  induction k generalizing s with
  | zero => simp [Lib.splitK] at h; rw [h]; exact Nat.le_refl _
  | succ k ih =>
    unfold Lib.splitK at h
    split at h
    · simp at h; rw [h]; exact Nat.le_refl _
    · rcases List.mem_cons.1 h with rfl | h
      · simp; omega
      · have := ih _ h
        rw [List.length_drop] at this
        omega
end Go.Proofs.YthoiabdndaoflabDoor
