/- Merged: Draw2 Draw3. -/
import Derived.Test.YthlpjiibjlaebaaDoorMGAA
namespace Go.Proofs.YthlpjiibjlaebaaDoor
open Go.RowKit
/-- The code's bytes as they came in. -/
def CodeIn (w : World) (a : Option Addr) (len : Nat) : Prop := len = 0 ∨ ∃ b off, a = some ⟨b, off, none⟩ ∧ b < w.heap.size ∧ ∀ i, i < len → ∃ x : Nat, x < 256 ∧ w.cell? ⟨b, off + i, none⟩ = some (.int .u8 x)
theorem CodeIn.below {w w' : World} {a : Option Addr} {len : Nat} (h : CodeIn w a len) (hb : Below w.heap.size w w') : CodeIn w' a len := by
  rcases h with h | ⟨b, off, ha, hlt, hc⟩
  · exact Or.inl h
  · exact Or.inr ⟨b, off, ha, Nat.lt_of_lt_of_le hlt hb.size, fun i hi => by
      obtain ⟨x, hx, hcell⟩ := hc i hi
      exact ⟨x, hx, (hb.cell (p := ⟨b, off + i, none⟩) hlt).trans hcell⟩⟩
/-- The new cursor. -/
def NewCur (w : World) (a : Option Addr) (len cap : Nat) (e : Ending) (w' : World) : Prop :=
  e = .returned (.pointer (some ⟨w.heap.size, 0, none⟩)) ∧ CurAt w' w.heap.size a len cap ∧ DataAt w' w.heap.size a len ∧ Below w.heap.size w w'
theorem new_end (w : World) (a : Option Addr) (len cap : Nat) (h : Int) (hd : CodeIn w a len) :
    CurAt (w.alloc (.cells #[.slice a len cap, .int .i64 0, .int .i64 h] 94)) w.heap.size a len cap ∧ DataAt (w.alloc (.cells #[.slice a len cap, .int .i64 0, .int .i64 h] 94)) w.heap.size a len := by
  refine ⟨⟨0, h, by omega, by omega, heap_alloc_new _ _⟩, ?_⟩
  rcases hd with hd | ⟨b, off, ha, hlt, hc⟩
  · exact Or.inl hd
  · exact Or.inr ⟨b, off, ha, by omega, fun i hi => by
      obtain ⟨x, hx, hcell⟩ := hc i hi
      exact ⟨x, hx, (World.cell?_alloc_past _ _ _ hlt).trans hcell⟩⟩
set_option maxHeartbeats 2000000 in
set_option maxRecDepth 1000000 in
theorem new_any (w : World) (a : Option Addr) (len cap : Nat) (hlen : len ≤ 1048576) (hd : CodeIn w a len) :
    Calls Tryd.prog 74 #[.slice a len cap] w (NewCur w a len cap) := by
  have HD := Lib.hid hd
  clear hd
  go_enter Tryd.func74, Tryd.ntmps74
  go_wp2
  go_loop [3, 4] (fun h i => ∃ (k : Nat) (hh : Int), k ≤ len ∧ i = .int .i64 k ∧ h = .int .i64 hh) (fun _ i => len - (intOf i).toNat)
  case atStart => exact ⟨0, _, Nat.zero_le _, rfl, rfl⟩
  case round =>
    obtain ⟨k, hh, hk, rfl, rfl⟩ := hrel
    by_cases hlt : k < len ∧ k < 4000
    · obtain ⟨hl, h4⟩ := hlt
      rcases HD.out with h0 | ⟨b, off, ha, hbl, hc⟩
      · omega
      · subst ha
        obtain ⟨x, hx, hcell⟩ := hc k hl
        clear hc
        go_wp2
        go_round
        case rel => exact ⟨k + 1, _, by omega, by go_num, rfl⟩
        case measure => simp [intOf]; omega
    · by_cases hl : k < len
      · have h4 : 4000 ≤ k := by omega
        clear hlt
        go_wp2
        go_ret
        exact ⟨rfl, (new_end w a len cap hh HD.out).1, (new_end w a len cap hh HD.out).2, (Below.refl _ _).alloc (Nat.le_refl _) _⟩
      · have hl' : len ≤ k := by omega
        clear hlt hl
        go_wp2
        go_ret
        exact ⟨rfl, (new_end w a len cap hh HD.out).1, (new_end w a len cap hh HD.out).2, (Below.refl _ _).alloc (Nat.le_refl _) _⟩
/-- A drawn text. -/
def DrawnText (w : World) (C : Nat) (a : Option Addr) (len cap most : Nat) (e : Ending) (w' : World) : Prop :=
  ∃ t : List UInt8, e = .returned (strV t) ∧ t.length ≤ most ∧ CurAt w' C a len cap ∧ w.grownBy w' (some C)
theorem CurAt.lt {w : World} {C : Nat} {a : Option Addr} {len cap : Nat} (h : CurAt w C a len cap) : C < w.heap.size := by
  obtain ⟨i, h, _, _, hb⟩ := h
  exact (Array.getElem?_eq_some_iff.1 hb).1
theorem CurAt.other {w w' : World} {C : Nat} {a : Option Addr} {len cap : Nat} (h : CurAt w C a len cap) (hb : w'.heap[C]? = w.heap[C]?) : CurAt w' C a len cap := by
  obtain ⟨i, h, h0, h1, hc⟩ := h
  exact ⟨i, h, h0, h1, hb.trans hc⟩
/-- A row of the call's own beside the cursor: it grows by one, the cursor stands. -/
theorem text_step {w wr w1 w2 : World} {C B : Nat} {a : Option Addr} {len cap : Nat} {v : Value} {o : Obj} {d : List UInt8} (hB : w.heap.size = B) (hC : C < B) (hown : w1.ownsRow B 5 1 v d.length (d.map byteV))
    (hg : w.grownBy wr (some C)) (hg1 : wr.grownBy w1 (some C)) (hcur : CurAt w1 C a len cap) (hgrow : (w1.alloc o).grownBy w2 v.ownBlock) : CurAt w2 C a len cap ∧ w.grownBy w2 (some C) := by
  have hg01 := grownC_trans hg hg1
  have hne : ∀ k, k < B → some k ≠ v.ownBlock := fun k hk e => by have := (hown.lt k e.symm).1; omega
  refine ⟨hcur.other ?_, ⟨hgrow.os.trans hg01.os, hgrow.tape.trans hg01.tape, hgrow.output.trans hg01.output, ?_, fun k hk hkc => ?_⟩⟩
  · rw [hgrow.block C (by have := hcur.lt; simp; omega) (hne C hC)]
    exact heap_alloc_old w1 o hcur.lt
  · have := hgrow.size; have := hg01.size; simp at *; omega
  · have hk1 : k < w1.heap.size := Nat.lt_of_lt_of_le hk hg01.size
    rw [hgrow.block k (by simp; omega) (hne k (by omega)), heap_alloc_old w1 o hk1]
    exact hg01.block k hk hkc
end Go.Proofs.YthlpjiibjlaebaaDoor

namespace Go.Proofs.YthlpjiibjlaebaaDoor
open Go.RowKit
/-- Any int. -/
abbrev AnyInt (w : World) (C : Nat) (a : Option Addr) (len cap : Nat) (e : Ending) (w' : World) : Prop := Drawn w C a len cap (-9223372036854775808) 9223372036854775807 e w'
set_option maxHeartbeats 2000000 in
set_option maxRecDepth 1000000 in
theorem pick_any (w : World) (C : Nat) (a : Option Addr) (len cap L m cp : Nat) (hlen : len ≤ 1048576) (hc : CurAt w C a len cap) (hd : DataAt w C a len) (hm0 : 0 < m) (hm : m ≤ 1000) (hne : L ≠ C)
    (hcells : ∀ i, i < m → ∃ x : Int, -9223372036854775808 ≤ x ∧ x ≤ 9223372036854775807 ∧ w.cell? ⟨L, i, none⟩ = some (.int .i64 x)) :
    Calls Tryd.prog 94 #[.pointer (some ⟨C, 0, none⟩), .slice (some ⟨L, 0, none⟩) m cp] w (AnyInt w C a len cap) := by
  have F := Lib.hid (below_any w C a len cap m hlen hc hd (by omega))
  have HCE := Lib.hid hcells
  have HNE := Lib.hid hne
  clear hc hd hcells hne
  go_enter Tryd.func94, Tryd.ntmps94
  go_wp2_with fail
  refine F.out.mono ?_
  rintro e w1 ⟨r, rfl, hr0, hr1, hcur, hg⟩
  obtain ⟨q, rfl⟩ : ∃ q : Nat, r = q := ⟨r.toNat, by omega⟩
  obtain ⟨x, hx0, hx1, hcell⟩ := HCE.out q (by omega)
  have hcell1 : w1.cell? ⟨L, q, none⟩ = some (.int .i64 x) := hg.cell hcell (by simpa using HNE.out)
  have hqm : q < m := by omega
  have HC := Lib.hid hcur
  have HG := Lib.hid hg
  clear hcur hg F hcell
  go_wp2
  go_ret
  exact ⟨_, rfl, hx0, hx1, HC.out, HG.out⟩
def picks : List Int := [-1, 0, 127, 128, 255, 256, 16383, 16384, 65535, 65536, 562949953421311, 562949953421312, 999999999, 1000000000, -999999999, 9223372036854775807, -9223372036854775808]
theorem picks_fit (i : Nat) (h : i < 17) : ∃ x : Int, -9223372036854775808 ≤ x ∧ x ≤ 9223372036854775807 ∧ (picks.map (Value.int .i64)).toArray[i]? = some (.int .i64 x) := by
  have : i = 0 ∨ i = 1 ∨ i = 2 ∨ i = 3 ∨ i = 4 ∨ i = 5 ∨ i = 6 ∨ i = 7 ∨ i = 8 ∨ i = 9 ∨ i = 10 ∨ i = 11 ∨ i = 12 ∨ i = 13 ∨ i = 14 ∨ i = 15 ∨ i = 16 := by omega
  rcases this with rfl | rfl | rfl | rfl | rfl | rfl | rfl | rfl | rfl | rfl | rfl | rfl | rfl | rfl | rfl | rfl | rfl <;> exact ⟨_, by decide, by decide, rfl⟩
theorem mul_fit (x y : Int) (hx0 : 0 ≤ x) (hx1 : x ≤ 999999999) (hy0 : 0 ≤ y) (hy1 : y ≤ 999999999) : 0 ≤ x * y ∧ x * y ≤ 999999998000000001 := by
  refine ⟨Int.mul_nonneg hx0 hy0, ?_⟩
  have h1 : x * y ≤ 999999999 * y := Int.mul_le_mul_of_nonneg_right hx1 hy0
  omega
theorem below_of {w w1 w2 : World} (hb : Below w.heap.size w w1) (hg : w1.grownBy w2 (some w.heap.size)) : Below w.heap.size w w2 :=
  hb.grown hg hb.size (fun k hk => by cases hk; exact Nat.le_refl _)
end Go.Proofs.YthlpjiibjlaebaaDoor
