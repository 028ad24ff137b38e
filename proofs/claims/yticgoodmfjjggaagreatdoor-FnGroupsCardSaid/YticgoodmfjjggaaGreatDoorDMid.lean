/- What stands while a group is drawn and used: the state of a drawing function between its calls. -/
import Derived.Test.YticgoodmfjjggaaGreatDoorDSet
import Derived.Test.YticgoodmfjjggaaGreatDoorOwnP
namespace Go.Proofs.YticgoodmfjjggaaGreatDoor
open Go.RowKit
set_option maxRecDepth 1000000
abbrev nilG : Obj := .cells #[.slice none 0 0] 26
theorem below_newset {a w : World} {B : Nat} (h : Below B a w) {b : Nat} (hb : B ≤ b) (v : Value) : Below B a (w.setCell ⟨b, 0, none⟩ v) :=
  ⟨h.os, h.tape, h.output, by simpa using h.size, fun k hk => (heap_setCell_other w ⟨b, 0, none⟩ k v (fun e => by simp at e; omega)).trans (h.block k hk)⟩
/-- The result's variable in block w.heap.size, the cursor in the next one, the drawn group's row above. -/
structure MidG (w w3 : World) (a : Option Addr) (len cap : Nat) (au : Option Addr) (cu : Nat) (l : List Int) : Prop where
  cur : CurAt w3 (w.heap.size + 1) a len cap
  dat : DataAt w3 (w.heap.size + 1) a len
  res : w3.heap[w.heap.size]? = some (.cells #[.slice none 0 0] 26 (0, 0))
  own : w3.ownsRow (w.heap.size + 2) 3 1 (.slice au l.length cu) l.length (l.map (Value.int .i64))
  few : l.length ≤ 4
  bel : Below w.heap.size w w3
  lt : w.heap.size + 2 ≤ w3.heap.size
theorem MidG.grown {w w3 w4 : World} {a : Option Addr} {len cap : Nat} {au : Option Addr} {cu : Nat} {l : List Int} (m : MidG w w3 a len cap au cu l) (hc : CurAt w4 (w.heap.size + 1) a len cap) (hg : w3.grownBy w4 (some (w.heap.size + 1))) : MidG w w4 a len cap au cu l :=
  have hlt := m.lt
  ⟨hc, m.dat.grown hg, (hg.block _ (by omega) (by simp)).trans m.res, m.own.kept hg (.inr fun e => by have := (m.own.lt _ e).1; omega), m.few, m.bel.grown hg (by omega) (fun k hk => by cases hk; omega), Nat.le_trans m.lt hg.size⟩
theorem MidG.below {w w3 w4 : World} {a : Option Addr} {len cap : Nat} {au : Option Addr} {cu : Nat} {l : List Int} (m : MidG w w3 a len cap au cu l) (hb : Below w3.heap.size w3 w4) : MidG w w4 a len cap au cu l :=
  m.grown (m.cur.other (hb.block _ (by have := m.lt; omega))) (below_grown hb _)
theorem MidG.drew {w w3 : World} {a : Option Addr} {len cap : Nat} {au : Option Addr} {cu : Nat} {l : List Int} (m : MidG w w3 a len cap au cu l) : MidG w w3.drew a len cap au cu l :=
  m.grown m.cur ⟨rfl, rfl, rfl, Nat.le_refl _, fun _ _ _ => rfl⟩
theorem MidG.alloc {w w3 : World} {a : Option Addr} {len cap : Nat} {au : Option Addr} {cu : Nat} {l : List Int} (m : MidG w w3 a len cap au cu l) (c : Array Value) (t : TypeId) : MidG w (w3.alloc (.cells c t)) a len cap au cu l :=
  m.below (Joins.below_alloc1 _ _)
theorem MidG.ints {w w3 : World} {a : Option Addr} {len cap : Nat} {au : Option Addr} {cu : Nat} {l : List Int} (m : MidG w w3 a len cap au cu l) : Ints w3 au l := own_ints' rfl m.own
theorem MidG.apart {w w3 : World} {a : Option Addr} {len cap : Nat} {au : Option Addr} {cu : Nat} {l : List Int} (m : MidG w w3 a len cap au cu l) : ∀ x, au = some x → x.block ≠ w.heap.size + 1 := fun x e h => by
  subst e
  have := (m.own.lt x.block (by simp [Value.ownBlock])).1
  omega
theorem MidG.cells {w w3 : World} {a : Option Addr} {len cap : Nat} {au : Option Addr} {cu : Nat} {l : List Int} (m : MidG w w3 a len cap au cu l) : w3.cell? ⟨w.heap.size, 0, none⟩ = some (.slice none 0 0) ∧ w3.frozen? ⟨w.heap.size, 0, none⟩ = false := one_cell m.res
theorem MidG.finish {w w3 : World} {a : Option Addr} {len cap : Nat} {au : Option Addr} {cu : Nat} {l : List Int} (m : MidG w w3 a len cap au cu l) :
    (w3.setCell ⟨w.heap.size, 0, none⟩ (.slice au l.length cu)).ownsRow w.heap.size 3 1 (.slice au l.length cu) l.length (l.map (Value.int .i64)) ∧ Below w.heap.size w (w3.setCell ⟨w.heap.size, 0, none⟩ (.slice au l.length cu)) :=
  ⟨ownsRow_lower (ownsRow_setCell_below (a := ⟨w.heap.size, 0, none⟩) m.own (by show w.heap.size < _; omega) _) (by omega), below_newset m.bel (Nat.le_refl _) _⟩
/-- The cursor made, behind the result's variable. -/
theorem new_at (w : World) (a : Option Addr) (len cap : Nat) (hlen : len ≤ 1048576) (hd : CodeIn w a len) :
    Calls Tryz.prog 79 #[.slice a len cap] (w.alloc nilG) fun e w1 => e = .returned (.pointer (some ⟨w.heap.size + 1, 0, none⟩)) ∧ CurAt w1 (w.heap.size + 1) a len cap ∧ DataAt w1 (w.heap.size + 1) a len ∧ Below (w.heap.size + 1) (w.alloc nilG) w1 := by
  have h := new_any (w.alloc nilG) a len cap hlen (hd.below (Joins.below_alloc1 w nilG))
  have e : (w.alloc nilG).heap.size = w.heap.size + 1 := by simp
  unfold NewCur at h
  rw [e] at h
  exact h
/-- A group drawn with the new cursor. -/
theorem mid_of {w w1 w2 : World} {a : Option Addr} {len cap : Nat} {u : Value} {l : List Int} (hd : DataAt w1 (w.heap.size + 1) a len) (hb : Below (w.heap.size + 1) (w.alloc nilG) w1) (hc1 : CurAt w1 (w.heap.size + 1) a len cap)
    (ho : w2.ownsRow w1.heap.size 3 1 u l.length (l.map (Value.int .i64))) (hl : l.length ≤ 4) (hc : CurAt w2 (w.heap.size + 1) a len cap) (hg : w1.grownBy w2 (some (w.heap.size + 1))) :
    ∃ au cu, u = .slice au l.length cu ∧ MidG w w2 a len cap au cu l := by
  obtain ⟨au, cu, rfl⟩ := own_slice' rfl ho
  have h1 := hc1.lt
  have h2 := hg.size
  have hb0 : Below w.heap.size w w1 := (Joins.below_alloc1 w nilG).trans (hb.mono (by omega))
  refine ⟨au, cu, rfl, hc, hd.grown hg, ?_, ownsRow_lower ho (by omega), hl, hb0.grown hg (by omega) (fun k hk => by cases hk; omega), by omega⟩
  rw [hg.block _ (by omega) (by simp), hb.block _ (by omega)]
  exact heap_alloc_new w nilG
end Go.Proofs.YticgoodmfjjggaaGreatDoor
