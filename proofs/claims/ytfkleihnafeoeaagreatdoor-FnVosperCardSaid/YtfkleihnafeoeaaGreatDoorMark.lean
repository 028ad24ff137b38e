/- Rows of the law's own that are marked and held: what marking leaves, what holding finds; a result that is a slice. -/
import Derived.Test.YtfkleihnafeoeaaGreatDoorGrpSpec6
import Derived.Deep.RegionHeld3
import Derived.Deep.DeepCutAuto
namespace Go.Proofs.YtfkleihnafeoeaaGreatDoor
open Go.RowKit
set_option maxRecDepth 1000000
theorem own_slice {w : World} {B : Nat} {v : Value} {l : List Int} (h : w.ownsRow B 3 1 v l.length (l.map (Value.int .i64))) : ∃ a cap, v = .slice a l.length cap := by
  obtain ⟨h1, h2⟩ := h
  rcases h2 with ⟨h2, h3⟩ | ⟨g, cap, cur, hv, _⟩
  · have : l = [] := by simpa using h3
    subst this
    exact ⟨none, 0, h2⟩
  · exact ⟨_, cap, hv⟩
theorem own_ints {w : World} {B cap : Nat} {a : Option Addr} {l : List Int} (h : w.ownsRow B 3 1 (.slice a l.length cap) l.length (l.map (Value.int .i64))) : Ints w a l := by
  obtain ⟨h1, h2⟩ := h
  rcases h2 with ⟨h2, h3⟩ | ⟨g, cap, cur, hv, hb, hg, h4, h5, h6, h7⟩
  · exact .inl (by simpa using h3)
  · cases hv
    exact ints_own ⟨h1, .inr ⟨g, cap, cur, rfl, hb, hg, h4, h5, h6, h7⟩⟩
theorem ne_blocks {x y : Option Nat} {N : Nat} (hA : ∀ k, x = some k → k < N) (hB : ∀ k, y = some k → N ≤ k) : x = none ∨ x ≠ y := by
  cases x with
  | none => exact .inl rfl
  | some k => exact .inr (fun e => by have h1 := hA k rfl; have h2 := hB k e.symm; omega)
theorem ne_blocks' {x y : Option Nat} {N : Nat} (hA : ∀ k, x = some k → N ≤ k) (hB : ∀ k, y = some k → k < N) : x = none ∨ x ≠ y := by
  cases x with
  | none => exact .inl rfl
  | some k => exact .inr (fun e => by have h1 := hA k rfl; have h2 := hB k e.symm; omega)
end Go.Proofs.YtfkleihnafeoeaaGreatDoor
