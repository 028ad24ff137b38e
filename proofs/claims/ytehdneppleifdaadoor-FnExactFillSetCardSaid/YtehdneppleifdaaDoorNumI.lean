/- A row of sets, and the numbers of its sets: numbersOf. -/
import Derived.Test.YtehdneppleifdaaDoorGenI
import Derived.Test.YtehdneppleifdaaDoorRound
namespace Go.Proofs.YtehdneppleifdaaDoor
open Go.RowKit Go.Shelf
attribute [local go_sem] Oper.semAt_some
set_option maxRecDepth 1000000
theorem eleInfo : (Tryd.prog.info? 48).map (fun i => (i.zero, i.size, i.bytes)) = some (some (.int .u64 0), 1, 8) := by kernel_rfl
/-- A row of sets that can be read. -/
def Els (w : World) (a : Option Addr) (L : List Nat) : Prop := L = [] ∨ ∃ b off, a = some ⟨b, off, none⟩ ∧ b < w.heap.size ∧ ∀ i, i < L.length → w.cell? ⟨b, off + i, none⟩ = some (.int .u64 ((L.getD i 0 : Nat) : Int))
def elV (x : Nat) : Value := .int .u64 ((x : Nat) : Int)
theorem els_own {w : World} {B n : Nat} {v : Value} {L : List Nat} (hn : n = L.length) (h : w.ownsRow B 48 1 v n (L.map elV)) : ∃ a cap, v = .slice a n cap ∧ Els w a L := by
  subst hn
  have h0 := h
  obtain ⟨_, h2⟩ := h
  rcases h2 with ⟨h2, h3⟩ | ⟨g, cap, cur, rfl, _, _⟩
  · have hl : L = [] := by simpa using h3
    subst hl
    exact ⟨none, 0, h2, .inl rfl⟩
  · refine ⟨some ⟨g, 0, none⟩, cap, rfl, ?_⟩
    by_cases hl : L = []
    · exact .inl hl
    · refine .inr ⟨g, 0, rfl, (h0.lt g rfl).2, fun i hi => ?_⟩
      have hg := h0.cellAt i (by omega)
      rw [show (⟨g, 0 + i, none⟩ : Addr) = ⟨g, i, none⟩ by simp, hg]
      simp [List.getD, hi, elV]
theorem Els.below {w w' : World} {a : Option Addr} {L : List Nat} (h : Els w a L) (hb : Below w.heap.size w w') : Els w' a L := by
  rcases h with h | ⟨b, off, h1, h2, h3⟩
  · exact .inl h
  · exact .inr ⟨b, off, h1, Nat.lt_of_lt_of_le h2 hb.size, fun i hi => (hb.cell (by simpa using h2)).trans (h3 i hi)⟩
/-- Sets as their numbers. -/
def NLi (L : List Nat) : List Int := L.map fun (x : Nat) => (x : Int)
theorem NLi_len (L : List Nat) : (NLi L).length = L.length := by simp [NLi]
theorem NLi_at (L : List Nat) (k : Nat) (h : k < L.length) : (NLi L).getD k 0 = ((L.getD k 0 : Nat) : Int) := by simp [NLi, List.getD, h]
end Go.Proofs.YtehdneppleifdaaDoor
