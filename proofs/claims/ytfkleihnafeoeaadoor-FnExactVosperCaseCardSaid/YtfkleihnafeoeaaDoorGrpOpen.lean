/- An argument that is a group, or a slice of ints, read as its list of ints. -/
import Derived.Test.YtfkleihnafeoeaaDoorGrpBase
import Derived.ProofKit
import Derived.OpenShut
import Derived.ChangeOld
import Derived.ChangeSame
namespace Go.Proofs.YtfkleihnafeoeaaDoor
open Go.ChangeShapes Go.WideShapes Go.ChangeAt Go.RowKit
set_option maxRecDepth 1000000
section
variable {H : Type} {enc : TypeId × Value → H}
theorem ints_of {W : World} {a : Option Addr} {len : Nat} {zs : List Int} {x : Addr} (ha : a = some x) (hlen : len ≤ zs.length) (hcell : ∀ i, i < zs.length → W.cell? (x.add i) = some (.int .i64 (zs.getD i 0))) : Ints W a (zs.take len) := by
  subst ha
  by_cases h0 : len = 0
  · subst h0; exact .inl (by simp)
  · obtain ⟨b, off, spot⟩ := x
    have hc0 := hcell 0 (by omega)
    have hspot : spot = none := by simpa [Addr.add] using World.cell?_spot hc0
    subst hspot
    have hadd : ∀ i, (⟨b, off, none⟩ : Addr).add i = ⟨b, off + i, none⟩ := fun i => by simp [Addr.add]
    refine .inr ⟨b, off, rfl, ?_, fun i hi => ?_⟩
    · have := World.block_lt_of_cell? W _ hc0
      simpa [Addr.add] using this
    · have hi2 : i < len := by simpa [Nat.min_eq_left hlen] using hi
      rw [← hadd, hcell i (by omega)]
      simp [List.getD, hi2]
theorem open_slice_ints {W : World} {n : Nat} {v : Value} {y : DataW H × List MemPlace} (h : DataW.trod enc Tryd.prog W 0 (fun _ => true) true n 22 [v] = some y) :
    ∃ a len cap l, v = .slice a len cap ∧ len = List.length l ∧ len ≤ 9223372036854775807 ∧ Ints W a l := by
  rcases open_ints Tryd.underlying22 Tryd.underlying3 (by kernel_rfl) h with ⟨hcs, _⟩ | ⟨x, l, c, zs, hcs, _, hl, hm, hz, _, hcell, hwz⟩
  · simp at hcs
    subst hcs
    exact ⟨none, 0, 0, [], rfl, rfl, by omega, .inl rfl⟩
  · simp at hcs
    subst hcs
    have hz2 : zs.length = c := by simpa using hz
    unfold maxLen at hm
    exact ⟨some x, l, c, zs.take l, rfl, by simp; omega, by omega, ints_of rfl (by omega) hcell⟩
theorem open_group {W : World} {r : Reach} {b0 : Nat} {v : Value} {d : DataW H} {p : List MemPlace} (hv : Value.okWide Tryd.prog W r b0 24 v) (h : DataW.Trod enc Tryd.prog W 0 (fun _ => true) true 24 v d p) :
    ∃ a len cap l, v = .agg #[.slice a len cap] ∧ len = List.length l ∧ len ≤ 9223372036854775807 ∧ Ints W a l := by
  obtain ⟨cs, rfl, hsz⟩ := okWide_struct Tryd.underlying24 hv
  have hC : Tryd.prog.cellsOf 24 = 1 := by kernel_rfl
  have hs1 : cs.size = 1 := hsz.trans hC
  obtain ⟨c0, rfl⟩ : ∃ c0, cs = #[c0] := Array.size_eq_one_iff.1 hs1
  obtain ⟨fuel, hf⟩ := h
  obtain ⟨y0, m, hx, _, h0⟩ := trod_struct1 Tryd.underlying24 hf
  have h1 : DataW.trod enc Tryd.prog W 0 (fun _ => true) true m 22 [c0] = some y0 := h0
  obtain ⟨a, len, cap, l, e, h2, h3, h4⟩ := open_slice_ints h1
  exact ⟨a, len, cap, l, by rw [e], h2, h3, h4⟩
end
end Go.Proofs.YtfkleihnafeoeaaDoor
