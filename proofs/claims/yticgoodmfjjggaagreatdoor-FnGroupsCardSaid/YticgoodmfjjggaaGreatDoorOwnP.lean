/- Rows that a call made, as they are read; cells of one. -/
import Derived.Test.YticgoodmfjjggaaGreatDoorGrpIs
namespace Go.Proofs.YticgoodmfjjggaaGreatDoor
open Go.RowKit
set_option maxRecDepth 1000000
theorem own_slice' {w : World} {B n : Nat} {v : Value} {l : List Int} (hn : n = l.length) (h : w.ownsRow B 3 1 v n (l.map (Value.int .i64))) : ∃ a cap, v = .slice a n cap := by
  subst hn
  obtain ⟨h1, h2⟩ := h
  rcases h2 with ⟨h2, h3⟩ | ⟨g, cap, cur, hv, _⟩
  · have : l = [] := by simpa using h3
    subst this
    exact ⟨none, 0, h2⟩
  · exact ⟨_, cap, hv⟩
theorem own_ints' {w : World} {B n cap : Nat} {a : Option Addr} {l : List Int} (hn : n = l.length) (h : w.ownsRow B 3 1 (.slice a n cap) n (l.map (Value.int .i64))) : Ints w a l := by
  subst hn
  obtain ⟨h1, h2⟩ := h
  rcases h2 with ⟨h2, h3⟩ | ⟨g, cap, cur, hv, hb, hg, h4, h5, h6, h7⟩
  · exact .inl (by simpa using h3)
  · cases hv
    exact ints_own ⟨h1, .inr ⟨g, cap, cur, rfl, hb, hg, h4, h5, h6, h7⟩⟩
theorem one_cell {w : World} {b : Nat} {v : Value} {T : TypeId} (h : w.heap[b]? = some (.cells #[v] T (0, 0))) : w.cell? ⟨b, 0, none⟩ = some v ∧ w.frozen? ⟨b, 0, none⟩ = false :=
  ⟨by simp [World.cell?, h], by simp [World.frozen?, h]⟩
theorem set_one {w : World} {b : Nat} {v u : Value} {T : TypeId} (h : w.heap[b]? = some (.cells #[v] T (0, 0))) : (w.setCell ⟨b, 0, none⟩ u).heap[b]? = some (.cells #[u] T (0, 0)) := by
  rw [heap_setCell_same w b 0 _ _ u h]; rfl
end Go.Proofs.YticgoodmfjjggaaGreatDoor
