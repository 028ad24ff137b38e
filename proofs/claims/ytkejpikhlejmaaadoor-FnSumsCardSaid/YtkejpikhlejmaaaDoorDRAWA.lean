/- Merged: Draw Draw2 Draw3. -/
import Derived.Test.YtkejpikhlejmaaaDoorBytes
import Derived.Deep.QuietTactic
import Derived.BigQuiet
namespace Go.Proofs.YtkejpikhlejmaaaDoor
open Go.RowKit
/-- The cursor lies in block C. -/
def CurAt (w : World) (C : Nat) (a : Option Addr) (len cap : Nat) : Prop :=
  ∃ i h : Int, 0 ≤ i ∧ i ≤ len ∧ w.heap[C]? = some (.cells #[.slice a len cap, .int .i64 i, .int .i64 h] 80 (0, 0))
/-- The code's bytes lie in a block that is not the cursor's. -/
def DataAt (w : World) (C : Nat) (a : Option Addr) (len : Nat) : Prop :=
  len = 0 ∨ ∃ b off, a = some ⟨b, off, none⟩ ∧ b ≠ C ∧ ∀ i, i < len → ∃ x : Nat, x < 256 ∧ w.cell? ⟨b, off + i, none⟩ = some (.int .u8 x)
theorem grown_trans {a b c : World} {row : Option Nat} (h : a.grownBy b row) (k : b.grownBy c row) : a.grownBy c row :=
  ⟨k.os.trans h.os, k.tape.trans h.tape, k.output.trans h.output, Nat.le_trans h.size k.size, fun i hi hr => (k.block i (Nat.lt_of_lt_of_le hi h.size) hr).trans (h.block i hi hr)⟩
theorem grown_drew {a w : World} {row : Option Nat} (h : a.grownBy w row) (n : Nat) : a.grownBy (w.drewN n) row := ⟨h.os, h.tape, h.output, h.size, h.block⟩
theorem grown_set {a w : World} {C : Nat} (h : a.grownBy w (some C)) (j : Nat) (v : Value) : a.grownBy (w.setCell ⟨C, j, none⟩ v) (some C) :=
  grown_trans h ⟨rfl, rfl, rfl, by simp, fun k _ hk => heap_setCell_other w ⟨C, j, none⟩ k v (fun e => hk (by simp [e]))⟩
theorem DataAt.grown {w w' : World} {C : Nat} {a : Option Addr} {len : Nat} (h : DataAt w C a len) (hg : w.grownBy w' (some C)) : DataAt w' C a len := by
  rcases h with h | ⟨b, off, ha, hb, hc⟩
  · exact Or.inl h
  · refine Or.inr ⟨b, off, ha, hb, fun i hi => ?_⟩
    obtain ⟨x, hx, hcell⟩ := hc i hi
    exact ⟨x, hx, hg.cell hcell (by simpa using hb)⟩
theorem i64_and255 (n : Int) : bits .and .i64 n 255 = n % 256 := by
  have h255 : (BitVec.ofInt 64 255).toNat = 2 ^ 8 - 1 := by decide
  have key : (BitVec.ofInt 64 n &&& BitVec.ofInt 64 255).toNat = (n % ((2 ^ 64 : Nat) : Int)).toNat % 2 ^ 8 := by
    rw [BitVec.toNat_and, BitVec.toNat_ofInt, h255, Nat.and_two_pow_sub_one_eq_mod]
  show IntKind.i64.wrap ((BitVec.ofInt 64 n &&& BitVec.ofInt 64 255).toNat : Nat) = n % 256
  rw [key, IntKind.wrap_i64]
  omega
theorem cur_cell {w : World} {C : Nat} {x y z : Value} {T : TypeId} (h : w.heap[C]? = some (.cells #[x, y, z] T (0, 0))) :
    w.cell? ⟨C, 0, none⟩ = some x ∧ w.cell? ⟨C, 1, none⟩ = some y ∧ w.cell? ⟨C, 2, none⟩ = some z ∧ (∀ j, w.frozen? ⟨C, j, none⟩ = false) :=
  ⟨by simp [World.cell?, h], by simp [World.cell?, h], by simp [World.cell?, h], fun j => by simp [World.frozen?, h]⟩
/-- What a drawing step leaves. -/
def Drawn (w : World) (C : Nat) (a : Option Addr) (len cap : Nat) (lo hi : Int) (e : Ending) (w' : World) : Prop :=
  ∃ x : Int, e = .returned (.int .i64 x) ∧ lo ≤ x ∧ x ≤ hi ∧ CurAt w' C a len cap ∧ w.grownBy w' (some C)
set_option maxHeartbeats 2000000 in
set_option maxRecDepth 1000000 in
theorem byte_end (w : World) (C : Nat) (a : Option Addr) (len cap : Nat) (i h : Int) (hi0 : 0 ≤ i) (hil : i ≤ len) (hge : (len : Int) ≤ i)
    (hb : w.heap[C]? = some (.cells #[.slice a len cap, .int .i64 i, .int .i64 h] 80 (0, 0))) :
    Calls Tryd.prog 98 #[.pointer (some ⟨C, 0, none⟩)] w (Drawn w C a len cap 0 255) := by
  obtain ⟨c0, c1, c2, hf⟩ := cur_cell hb
  have f2 := hf 2
  clear hf
  have HB := Lib.hid hb
  clear hb
  go_enter Tryd.func98, Tryd.ntmps98
  go_wp2
  generalize wrap64 (wrap64 (h * 6364136223846793005) + 1442695040888963407) = h2
  have hb2 : (w.setCell ⟨C, 2, none⟩ (.int .i64 h2)).heap[C]? = some (.cells #[.slice a len cap, .int .i64 i, .int .i64 h2] 80 (0, 0)) := by
    rw [heap_setCell_same w C 2 _ _ (.int .i64 h2) HB.out]; rfl
  have hg2 := grown_set (World.grownBy.refl w (some C)) 2 (.int .i64 h2)
  generalize w.setCell ⟨C, 2, none⟩ (.int .i64 h2) = w2 at hb2 hg2 ⊢
  clear c0 c1 c2 f2 HB
  obtain ⟨c0, c1, c2, hf⟩ := cur_cell hb2
  clear hf
  have HB2 := Lib.hid hb2
  clear hb2
  go_quiet (fail)
  go_wp2
  go_quiet (fail)
  go_wp2
  go_ret
  exact ⟨_, rfl, by rw [i64_and255]; omega, by rw [i64_and255]; omega, ⟨i, h2, hi0, hil, HB2.out⟩, grown_drew (grown_drew hg2 _) _⟩
set_option maxHeartbeats 2000000 in
set_option maxRecDepth 1000000 in
theorem byte_mid (w : World) (C : Nat) (b off len cap q x : Nat) (h : Int) (hlen : len ≤ 1048576) (hq : q < len) (hx : x < 256) (hne : b ≠ C)
    (hd : w.cell? ⟨b, off + q, none⟩ = some (.int .u8 x))
    (hb : w.heap[C]? = some (.cells #[.slice (some ⟨b, off, none⟩) len cap, .int .i64 q, .int .i64 h] 80 (0, 0))) :
    Calls Tryd.prog 98 #[.pointer (some ⟨C, 0, none⟩)] w (Drawn w C (some ⟨b, off, none⟩) len cap 0 255) := by
  obtain ⟨c0, c1, c2, hf⟩ := cur_cell hb
  have f2 := hf 2
  clear hf
  have HB := Lib.hid hb
  have HD := Lib.hid hd
  have HNE := Lib.hid hne
  clear hb hd hne
  go_enter Tryd.func98, Tryd.ntmps98
  go_wp2
  generalize wrap64 (wrap64 (h * 6364136223846793005) + 1442695040888963407) = h2
  have hb2 : (w.setCell ⟨C, 2, none⟩ (.int .i64 h2)).heap[C]? = some (.cells #[.slice (some ⟨b, off, none⟩) len cap, .int .i64 q, .int .i64 h2] 80 (0, 0)) := by
    rw [heap_setCell_same w C 2 _ _ (.int .i64 h2) HB.out]; rfl
  have hg2 := grown_set (World.grownBy.refl w (some C)) 2 (.int .i64 h2)
  generalize w.setCell ⟨C, 2, none⟩ (.int .i64 h2) = w2 at hb2 hg2 ⊢
  clear c0 c1 c2 f2 HB
  obtain ⟨c0, c1, c2, hf⟩ := cur_cell hb2
  have f1 := hf 1
  clear hf
  have hd2 : w2.cell? ⟨b, off + q, none⟩ = some (.int .u8 x) := hg2.cell HD.out (by simpa using HNE.out)
  have HB2 := Lib.hid hb2
  clear hb2
  go_quiet (fail)
  go_wp2
  go_quiet (fail)
  go_wp2
  go_quiet (fail)
  go_wp2
  go_ret
  exact ⟨_, rfl, by rw [i64_and255]; omega, by rw [i64_and255]; omega, ⟨(q : Int) + 1, h2, by omega, by omega, heap_setCell_same _ C 1 _ _ _ HB2.out⟩, grown_set (grown_drew hg2 _) 1 _⟩
theorem byte_any (w : World) (C : Nat) (a : Option Addr) (len cap : Nat) (hlen : len ≤ 1048576) (hc : CurAt w C a len cap) (hd : DataAt w C a len) :
    Calls Tryd.prog 98 #[.pointer (some ⟨C, 0, none⟩)] w (Drawn w C a len cap 0 255) := by
  obtain ⟨i, h, hi0, hil, hb⟩ := hc
  by_cases hge : (len : Int) ≤ i
  · exact byte_end w C a len cap i h hi0 hil hge hb
  · obtain ⟨q, rfl⟩ : ∃ q : Nat, i = q := ⟨i.toNat, by omega⟩
    rcases hd with h0 | ⟨b, off, rfl, hne, hcell⟩
    · omega
    · obtain ⟨x, hx, hcx⟩ := hcell q (by omega)
      exact byte_mid w C b off len cap q x h hlen (by omega) hx hne hcx hb
set_option maxHeartbeats 2000000 in
set_option maxRecDepth 1000000 in
theorem below_small (w : World) (C : Nat) (a : Option Addr) (len cap : Nat) (n : Int) (hlen : len ≤ 1048576) (hc : CurAt w C a len cap) (hd : DataAt w C a len) (h0 : 0 < n) (h1 : n ≤ 256) :
    Calls Tryd.prog 86 #[.pointer (some ⟨C, 0, none⟩), .int .i64 n] w (Drawn w C a len cap 0 (n - 1)) := by
  have F := Lib.hid (byte_any w C a len cap hlen hc hd)
  clear hc hd
  go_enter Tryd.func86, Tryd.ntmps86
  go_wp2_with fail
  refine F.out.mono ?_
  rintro e w1 ⟨x, rfl, hx0, hx1, hcur, hg⟩
  have HC := Lib.hid hcur
  have HG := Lib.hid hg
  clear hcur hg
  go_wp2
  go_ret
  exact ⟨_, rfl, Int.emod_nonneg _ (by omega), by have := Int.emod_lt_of_pos x h0; omega, HC.out, HG.out⟩
set_option maxHeartbeats 2000000 in
set_option maxRecDepth 1000000 in
theorem below_big (w : World) (C : Nat) (a : Option Addr) (len cap : Nat) (n : Int) (hlen : len ≤ 1048576) (hc : CurAt w C a len cap) (hd : DataAt w C a len) (h0 : 256 < n) :
    Calls Tryd.prog 86 #[.pointer (some ⟨C, 0, none⟩), .int .i64 n] w (Drawn w C a len cap 0 (n - 1)) := by
  have F := Lib.hid (byte_any w C a len cap hlen hc hd)
  have HD := Lib.hid hd
  clear hc hd
  go_enter Tryd.func86, Tryd.ntmps86
  go_wp2_with fail
  refine F.out.mono ?_
  rintro e w1 ⟨x1, rfl, hx0, hx1, hcur, hg⟩
  have F1 := Lib.hid (byte_any w1 C a len cap hlen hcur (HD.out.grown hg))
  have HG := Lib.hid hg
  clear hcur hg
  go_wp2_with fail
  refine F1.out.mono ?_
  rintro e w2 ⟨x2, rfl, hy0, hy1, hcur, hg⟩
  have HG2 := Lib.hid (grown_trans HG.out hg)
  have F2 := Lib.hid (byte_any w2 C a len cap hlen hcur (HD.out.grown HG2.out))
  clear hcur hg
  go_wp2_with fail
  refine F2.out.mono ?_
  rintro e w3 ⟨x3, rfl, hz0, hz1, hcur, hg⟩
  have HG3 := Lib.hid (grown_trans HG2.out hg)
  have F3 := Lib.hid (byte_any w3 C a len cap hlen hcur (HD.out.grown HG3.out))
  clear hcur hg
  go_wp2_with fail
  refine F3.out.mono ?_
  rintro e w4 ⟨x4, rfl, hu0, hu1, hcur, hg⟩
  have HG4 := Lib.hid (grown_trans HG3.out hg)
  have HC := Lib.hid hcur
  clear hcur hg
  go_wp2
  go_ret
  exact ⟨_, rfl, Int.emod_nonneg _ (by omega), by have := Int.emod_lt_of_pos (x1 * 16777216 + x2 * 65536 + x3 * 256 + x4) (show 0 < n by omega); omega, HC.out, HG4.out⟩
theorem below_any (w : World) (C : Nat) (a : Option Addr) (len cap : Nat) (n : Int) (hlen : len ≤ 1048576) (hc : CurAt w C a len cap) (hd : DataAt w C a len) (h0 : 0 < n) :
    Calls Tryd.prog 86 #[.pointer (some ⟨C, 0, none⟩), .int .i64 n] w (Drawn w C a len cap 0 (n - 1)) := by
  by_cases h : n ≤ 256
  · exact below_small w C a len cap n hlen hc hd h0 h
  · exact below_big w C a len cap n hlen hc hd (by omega)
end Go.Proofs.YtkejpikhlejmaaaDoor

namespace Go.Proofs.YtkejpikhlejmaaaDoor
open Go.RowKit
/-- The code's bytes as they came in. -/
def CodeIn (w : World) (a : Option Addr) (len : Nat) : Prop := len = 0 ∨ ∃ b off, a = some ⟨b, off, none⟩ ∧ b < w.heap.size ∧ ∀ i, i < len → ∃ x : Nat, x < 256 ∧ w.cell? ⟨b, off + i, none⟩ = some (.int .u8 x)
theorem CodeIn.below {w w' : World} {a : Option Addr} {len : Nat} (h : CodeIn w a len) (hb : Below w.heap.size w w') : CodeIn w' a len := by
  rcases h with h | ⟨b, off, ha, hlt, hc⟩
  · exact Or.inl h
  · exact Or.inr ⟨b, off, ha, Nat.lt_of_lt_of_le hlt hb.size, fun i hi => by
      obtain ⟨x, hx, hcell⟩ := hc i hi
      exact ⟨x, hx, (hb.cell (p := ⟨b, off + i, none⟩) hlt).trans hcell⟩⟩
/-- The new cursor. -/
def NewCur (w : World) (a : Option Addr) (len cap : Nat) (e : Ending) (w' : World) : Prop :=
  e = .returned (.pointer (some ⟨w.heap.size, 0, none⟩)) ∧ CurAt w' w.heap.size a len cap ∧ DataAt w' w.heap.size a len ∧ Below w.heap.size w w'
theorem new_end (w : World) (a : Option Addr) (len cap : Nat) (h : Int) (hd : CodeIn w a len) :
    CurAt (w.alloc (.cells #[.slice a len cap, .int .i64 0, .int .i64 h] 80)) w.heap.size a len cap ∧ DataAt (w.alloc (.cells #[.slice a len cap, .int .i64 0, .int .i64 h] 80)) w.heap.size a len := by
  refine ⟨⟨0, h, by omega, by omega, heap_alloc_new _ _⟩, ?_⟩
  rcases hd with hd | ⟨b, off, ha, hlt, hc⟩
  · exact Or.inl hd
  · exact Or.inr ⟨b, off, ha, by omega, fun i hi => by
      obtain ⟨x, hx, hcell⟩ := hc i hi
      exact ⟨x, hx, (World.cell?_alloc_past _ _ _ hlt).trans hcell⟩⟩
set_option maxHeartbeats 2000000 in
set_option maxRecDepth 1000000 in
theorem new_any (w : World) (a : Option Addr) (len cap : Nat) (hlen : len ≤ 1048576) (hd : CodeIn w a len) :
    Calls Tryd.prog 63 #[.slice a len cap] w (NewCur w a len cap) := by
  have HD := Lib.hid hd
  clear hd
  go_enter Tryd.func63, Tryd.ntmps63
  go_wp2
  go_loop [3, 4] (fun h i => ∃ (k : Nat) (hh : Int), k ≤ len ∧ i = .int .i64 k ∧ h = .int .i64 hh) (fun _ i => len - (intOf i).toNat)
  case atStart => exact ⟨0, _, Nat.zero_le _, rfl, rfl⟩
  case round =>
    obtain ⟨k, hh, hk, rfl, rfl⟩ := hrel
    by_cases hlt : k < len ∧ k < 4000
    · obtain ⟨hl, h4⟩ := hlt
      rcases HD.out with h0 | ⟨b, off, ha, hbl, hc⟩
      · omega
      · subst ha
        obtain ⟨x, hx, hcell⟩ := hc k hl
        clear hc
        go_wp2
        go_round
        case rel => exact ⟨k + 1, _, by omega, by go_num, rfl⟩
        case measure => simp [intOf]; omega
    · by_cases hl : k < len
      · have h4 : 4000 ≤ k := by omega
        clear hlt
        go_wp2
        go_ret
        exact ⟨rfl, (new_end w a len cap hh HD.out).1, (new_end w a len cap hh HD.out).2, (Below.refl _ _).alloc (Nat.le_refl _) _⟩
      · have hl' : len ≤ k := by omega
        clear hlt hl
        go_wp2
        go_ret
        exact ⟨rfl, (new_end w a len cap hh HD.out).1, (new_end w a len cap hh HD.out).2, (Below.refl _ _).alloc (Nat.le_refl _) _⟩
/-- A drawn text. -/
def DrawnText (w : World) (C : Nat) (a : Option Addr) (len cap most : Nat) (e : Ending) (w' : World) : Prop :=
  ∃ t : List UInt8, e = .returned (strV t) ∧ t.length ≤ most ∧ CurAt w' C a len cap ∧ w.grownBy w' (some C)
theorem CurAt.lt {w : World} {C : Nat} {a : Option Addr} {len cap : Nat} (h : CurAt w C a len cap) : C < w.heap.size := by
  obtain ⟨i, h, _, _, hb⟩ := h
  exact (Array.getElem?_eq_some_iff.1 hb).1
theorem CurAt.other {w w' : World} {C : Nat} {a : Option Addr} {len cap : Nat} (h : CurAt w C a len cap) (hb : w'.heap[C]? = w.heap[C]?) : CurAt w' C a len cap := by
  obtain ⟨i, h, h0, h1, hc⟩ := h
  exact ⟨i, h, h0, h1, hb.trans hc⟩
/-- A row of the call's own beside the cursor: it grows by one, the cursor stands. -/
theorem text_step {w wr w1 w2 : World} {C B : Nat} {a : Option Addr} {len cap : Nat} {v : Value} {o : Obj} {d : List UInt8} (hB : w.heap.size = B) (hC : C < B) (hown : w1.ownsRow B 5 1 v d.length (d.map byteV))
    (hg : w.grownBy wr (some C)) (hg1 : wr.grownBy w1 (some C)) (hcur : CurAt w1 C a len cap) (hgrow : (w1.alloc o).grownBy w2 v.ownBlock) : CurAt w2 C a len cap ∧ w.grownBy w2 (some C) := by
  have hg01 := grown_trans hg hg1
  have hne : ∀ k, k < B → some k ≠ v.ownBlock := fun k hk e => by have := (hown.lt k e.symm).1; omega
  refine ⟨hcur.other ?_, ⟨hgrow.os.trans hg01.os, hgrow.tape.trans hg01.tape, hgrow.output.trans hg01.output, ?_, fun k hk hkc => ?_⟩⟩
  · rw [hgrow.block C (by have := hcur.lt; simp; omega) (hne C hC)]
    exact heap_alloc_old w1 o hcur.lt
  · have := hgrow.size; have := hg01.size; simp at *; omega
  · have hk1 : k < w1.heap.size := Nat.lt_of_lt_of_le hk hg01.size
    rw [hgrow.block k (by simp; omega) (hne k (by omega)), heap_alloc_old w1 o hk1]
    exact hg01.block k hk hkc
end Go.Proofs.YtkejpikhlejmaaaDoor

namespace Go.Proofs.YtkejpikhlejmaaaDoor
open Go.RowKit
/-- Any int. -/
abbrev AnyInt (w : World) (C : Nat) (a : Option Addr) (len cap : Nat) (e : Ending) (w' : World) : Prop := Drawn w C a len cap (-9223372036854775808) 9223372036854775807 e w'
set_option maxHeartbeats 2000000 in
set_option maxRecDepth 1000000 in
theorem pick_any (w : World) (C : Nat) (a : Option Addr) (len cap L m cp : Nat) (hlen : len ≤ 1048576) (hc : CurAt w C a len cap) (hd : DataAt w C a len) (hm0 : 0 < m) (hm : m ≤ 1000) (hne : L ≠ C)
    (hcells : ∀ i, i < m → ∃ x : Int, -9223372036854775808 ≤ x ∧ x ≤ 9223372036854775807 ∧ w.cell? ⟨L, i, none⟩ = some (.int .i64 x)) :
    Calls Tryd.prog 87 #[.pointer (some ⟨C, 0, none⟩), .slice (some ⟨L, 0, none⟩) m cp] w (AnyInt w C a len cap) := by
  have F := Lib.hid (below_any w C a len cap m hlen hc hd (by omega))
  have HCE := Lib.hid hcells
  have HNE := Lib.hid hne
  clear hc hd hcells hne
  go_enter Tryd.func87, Tryd.ntmps87
  go_wp2_with fail
  refine F.out.mono ?_
  rintro e w1 ⟨r, rfl, hr0, hr1, hcur, hg⟩
  obtain ⟨q, rfl⟩ : ∃ q : Nat, r = q := ⟨r.toNat, by omega⟩
  obtain ⟨x, hx0, hx1, hcell⟩ := HCE.out q (by omega)
  have hcell1 : w1.cell? ⟨L, q, none⟩ = some (.int .i64 x) := hg.cell hcell (by simpa using HNE.out)
  have hqm : q < m := by omega
  have HC := Lib.hid hcur
  have HG := Lib.hid hg
  clear hcur hg F hcell
  go_wp2
  go_ret
  exact ⟨_, rfl, hx0, hx1, HC.out, HG.out⟩
def picks : List Int := [-1, 0, 127, 128, 255, 256, 16383, 16384, 65535, 65536, 562949953421311, 562949953421312, 999999999, 1000000000, -999999999, 9223372036854775807, -9223372036854775808]
theorem picks_fit (i : Nat) (h : i < 17) : ∃ x : Int, -9223372036854775808 ≤ x ∧ x ≤ 9223372036854775807 ∧ (picks.map (Value.int .i64)).toArray[i]? = some (.int .i64 x) := by
  have : i = 0 ∨ i = 1 ∨ i = 2 ∨ i = 3 ∨ i = 4 ∨ i = 5 ∨ i = 6 ∨ i = 7 ∨ i = 8 ∨ i = 9 ∨ i = 10 ∨ i = 11 ∨ i = 12 ∨ i = 13 ∨ i = 14 ∨ i = 15 ∨ i = 16 := by omega
  rcases this with rfl | rfl | rfl | rfl | rfl | rfl | rfl | rfl | rfl | rfl | rfl | rfl | rfl | rfl | rfl | rfl | rfl <;> exact ⟨_, by decide, by decide, rfl⟩
theorem mul_fit (x y : Int) (hx0 : 0 ≤ x) (hx1 : x ≤ 999999999) (hy0 : 0 ≤ y) (hy1 : y ≤ 999999999) : 0 ≤ x * y ∧ x * y ≤ 999999998000000001 := by
  refine ⟨Int.mul_nonneg hx0 hy0, ?_⟩
  have h1 : x * y ≤ 999999999 * y := Int.mul_le_mul_of_nonneg_right hx1 hy0
  omega
theorem below_of {w w1 w2 : World} (hb : Below w.heap.size w w1) (hg : w1.grownBy w2 (some w.heap.size)) : Below w.heap.size w w2 :=
  hb.grown hg hb.size (fun k hk => by cases hk; exact Nat.le_refl _)
end Go.Proofs.YtkejpikhlejmaaaDoor
