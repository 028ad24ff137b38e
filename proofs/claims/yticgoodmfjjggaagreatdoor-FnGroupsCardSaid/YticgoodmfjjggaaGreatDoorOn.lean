/- What a long walk over drawn groups keeps: a world that holds all that stood at its beginning. -/
import Derived.Test.YticgoodmfjjggaaGreatDoorDMid
import Derived.Test.YticgoodmfjjggaaGreatDoorEach
namespace Go.Proofs.YticgoodmfjjggaaGreatDoor
open Go.RowKit
set_option maxRecDepth 1000000
/-- W keeps all that stood in W0. -/
def On (W0 W : World) : Prop := Below W0.heap.size W0 W
theorem On.step {W0 W W' : World} (o : On W0 W) (h : Below W.heap.size W W') : On W0 W' := Below.trans o (h.mono (Below.size o))
theorem On.drew {W0 W : World} (o : On W0 W) : On W0 W.drew := Below.drew o
theorem On.ints {W0 W : World} {a : Option Addr} {l : List Int} (o : On W0 W) (h : Ints W0 a l) : Ints W a l := h.below rfl o
theorem On.cell {W0 W : World} {p : Addr} {v : Value} (o : On W0 W) (h : W0.cell? p = some v) : W.cell? p = some v := keepC o (World.block_lt_of_cell? W0 _ h) h
theorem On.tab {W0 W : World} {B : Nat} (o : On W0 W) (hB : B ≤ W0.heap.size) (h : TabZ B W0) : TabZ B W := h.on (Below.mono o hB)
/-- What stands when a group has been drawn and laid into its variable. -/
theorem laid_of {w w0 w1 : World} {au : Option Addr} {cu B : Nat} {l : List Int} (hw : Below B w w0) (hB : B ≤ w0.heap.size) (ho : w1.ownsRow w0.heap.size 3 1 (.slice au l.length cu) l.length (l.map (Value.int .i64))) (hb : Below w0.heap.size w0 w1) :
    Below B w (w1.alloc (.cells #[.slice au l.length cu] 26)) ∧ Ints (w1.alloc (.cells #[.slice au l.length cu] 26)) au l ∧ (w1.alloc (.cells #[.slice au l.length cu] 26)).cell? ⟨w1.heap.size, 0, none⟩ = some (.slice au l.length cu) ∧ B ≤ (w1.alloc (.cells #[.slice au l.length cu] 26)).heap.size := by
  have h1 := hb.size
  refine ⟨(hw.trans (hb.mono hB)).trans ((Joins.below_alloc1 w1 _).mono (by omega)), own_ints' rfl (ho.alloc _), newC w1 _ _ rfl, by simp; omega⟩
theorem CodeIn.keep {w w' : World} {a : Option Addr} {len : Nat} (h : CodeIn w a len) (hb : Below w.heap.size w w') : CodeIn w' a len := h.below hb
end Go.Proofs.YticgoodmfjjggaaGreatDoor
