/- Merged: DGrp DGrp2. -/
import Derived.Test.YtehdneppleifdaaGreatDoorMGAF
import Derived.Deep.RegionHeld3
namespace Go.Proofs.YtehdneppleifdaaGreatDoor
open Go.RowKit
set_option maxRecDepth 1000000
/-- A drawn group, in the results. -/
def DGrp (w : World) (u : Value) (l : List Int) (w' : World) : Prop := w'.ownsRow w.heap.size 3 1 u l.length (l.map (Value.int .i64)) ∧ l.length ≤ 4 ∧ Below w.heap.size w w'
def DrawnGI (w : World) (e : Ending) (w' : World) : Prop := ∃ (u : Value) (l : List Int) (x : Int), e = .returned (.tuple #[.agg #[u], .int .i64 x]) ∧ -9223372036854775808 ≤ x ∧ x ≤ 9223372036854775807 ∧ DGrp w u l w'
set_option maxHeartbeats 4000000 in
theorem l3One_any (w : World) (a : Option Addr) (len cap : Nat) (hlen : len ≤ 1048576) (hd : CodeIn w a len) :
    Calls Tryz.prog 28 #[.slice a len cap] w (DrawnGI w) := by
  have HN := Lib.hid (new_at w a len cap hlen hd)
  clear hd
  go_enter Tryz.func28, Tryz.ntmps28
  go_wp2_with (first
    | (go_at_call 34; refine (l2Any_any _ _ a len cap hlen HC1.out HD1.out).mono ?_; rintro e w2 ⟨u, l, rfl, ho, hl, hcur, hg⟩; obtain ⟨au, cu, rfl, m2⟩ := mid_of HD1.out HB1.out HC1.out ho hl hcur hg; have M2 := Lib.hid m2; clear ho hl hcur hg m2; have M3 := Lib.hid (M2.out.alloc #[.slice au l.length cu] 26); have g3 := newC w2 (.slice au l.length cu) 26 (n := w2.heap.size) rfl; have G2 := Lib.hid M2.out.lt)
    | (go_at_call 35; refine HN.out.mono ?_; rintro e w1 ⟨rfl, hcur, hda, hbel⟩; have HC1 := Lib.hid hcur; have HD1 := Lib.hid hda; have HB1 := Lib.hid hbel; clear hcur hda hbel))
  have F3 := Lib.hid (l3Set_any _ _ a len cap l au l.length cu rfl (by have := M3.out.few; omega) M3.out.drew.ints hlen M3.out.drew.cur M3.out.drew.dat)
  go_region_with (go_at_call 59; refine F3.out.mono ?_; rintro e w4 ⟨x, rfl, hx0, hx1, hcur, hg⟩; have M4 := Lib.hid (M3.out.drew.grown hcur hg); have g4 := hg.cell g3 (by have := G2.out; simp; omega); have c4 := M4.out.cells.1; have f4 := M4.out.cells.2; clear hcur hg)
  all_goals
    have c5 := World.cell?_setCell_same w4 ⟨w.heap.size, 0, none⟩ (.slice au l.length cu) c4
    go_wp2
    refine bodyPost_ret (v := .tuple #[.agg #[.slice au l.length cu], .int .i64 x]) (by simp [results, Tryz.results28, go_sem, c5]) rfl ?_
    exact ⟨_, l, x, rfl, hx0, hx1, M4.out.finish.1, M4.out.few, M4.out.finish.2⟩
end Go.Proofs.YtehdneppleifdaaGreatDoor

namespace Go.Proofs.YtehdneppleifdaaGreatDoor
open Go.RowKit
set_option maxRecDepth 1000000
/-- A result's variable, the drawn group in another one. -/
theorem hand_on {w w1 : World} {u : Value} {l : List Int} (hb : Below w.heap.size w w1) (h : w1.ownsRow (w.heap.size + 1) 3 1 u l.length (l.map (Value.int .i64))) :
    (w1.setCell ⟨w.heap.size, 0, none⟩ u).ownsRow w.heap.size 3 1 u l.length (l.map (Value.int .i64)) ∧ Below w.heap.size w (w1.setCell ⟨w.heap.size, 0, none⟩ u) :=
  ⟨ownsRow_lower (ownsRow_setCell_below (a := ⟨w.heap.size, 0, none⟩) h (by show w.heap.size < _; omega) _) (by omega), below_newset hb (Nat.le_refl _) _⟩
theorem one_at (w : World) (a : Option Addr) (len cap : Nat) (hlen : len ≤ 1048576) (hd : CodeIn w a len) :
    Calls Tryz.prog 28 #[.slice a len cap] (w.alloc nilG) fun e w1 => ∃ (u : Value) (l : List Int) (x : Int), e = .returned (.tuple #[.agg #[u], .int .i64 x]) ∧ -9223372036854775808 ≤ x ∧ x ≤ 9223372036854775807 ∧ w1.ownsRow (w.heap.size + 1) 3 1 u l.length (l.map (Value.int .i64)) ∧ l.length ≤ 4 ∧ Below (w.heap.size + 1) (w.alloc nilG) w1 := by
  have h := l3One_any (w.alloc nilG) a len cap hlen (hd.below (Joins.below_alloc1 w nilG))
  have e : (w.alloc nilG).heap.size = w.heap.size + 1 := by simp
  unfold DrawnGI DGrp at h
  rw [e] at h
  exact h
end Go.Proofs.YtehdneppleifdaaGreatDoor
