/- Merged: Bytes Draw Draw2 Draw3 GrpIs OwnP GDraw GAny GEl GElem DSet DMid Each On VoSpec VoSpec2 VoSpec3 VoSpec4. -/
import Derived.Test.YtfkleihnafeoeaaGreatDoorRows
import Derived.WalkKit
import Derived.LoopTactic
import Derived.IntWalk
import Derived.Below
import Derived.OneCell
import Derived.Lib.Hide
import Derived.Lib.BufferRead
import Derived.Lib.SmallJoins
import Derived.Laws.OwnMore
import Derived.Laws.BitsAllLaws
import Derived.Laws.BitsLemmas
import Derived.Laws.Bits128
import Derived.Laws.IdiomStrings
import Derived.Outline
import Derived.Deep.RegionLaw
import Derived.Deep.QuietTactic
import Derived.BigQuiet
import Derived.Test.YtfkleihnafeoeaaGreatDoorGrpImpl
import Derived.Test.YtfkleihnafeoeaaGreatDoorGrpSpec6
import Derived.Deep.DeepCutAuto
import Derived.Test.YtfkleihnafeoeaaGreatDoorOrI
import Derived.Test.YtfkleihnafeoeaaGreatDoorSetBits
import Derived.RangeFuncFrom
import Derived.RangeFuncBox
import Derived.RangeFuncNested
import Derived.RangeFuncBound
import Derived.RangeFuncCalls
import Derived.RangeFuncLeaves
import Derived.Shelf.Abstract
import Derived.Shelf.RegionOpen
import Derived.Shelf.Spec.TrailingZeros
import Derived.OwnWalkIn
import Derived.TacticsInMore
import Derived.LoopNIn
import Derived.LoopIn
import Derived.Maps.AppendAt
import Derived.Lib.LaidTab
import Derived.Lib.AppendIntMem
import Derived.Test.YtfkleihnafeoeaaGreatDoorVoDef
import Derived.Test.YtfkleihnafeoeaaGreatDoorSumSpec
import Derived.Deep.RegionHeld3
namespace Go.Proofs.YtfkleihnafeoeaaGreatDoor
open Go.RowKit
def byteV (b : UInt8) : Value := .int .u8 (b.toNat : Int)
def bs (l : List UInt8) : ByteArray := ⟨l.toArray⟩
abbrev strV (l : List UInt8) : Value := .string (bs l)
theorem bs_append (a b : List UInt8) : bs a ++ bs b = bs (a ++ b) := by
  apply ByteArray.ext; simp [bs, ByteArray.data_append]
theorem bs_size (a : List UInt8) : (bs a).size = a.length := by simp [bs, ByteArray.size]
theorem byteInfo : (Tryz.prog.info? 5).map (fun i => (i.zero, i.size, i.bytes)) = some (some (.int .u8 0), 1, 1) := by kernel_rfl
theorem conv_own {w : World} {B : Nat} {v : Value} {l : List UInt8} (h : w.ownsRow B 5 1 v l.length (l.map byteV)) :
    (convert 22 9 v).run Tryz.prog w = .ok (strV l) w := by
  have hc := @World.ownsRow.cells _ _ _ _ _ _ _ h
  rcases h.2 with ⟨rfl, hn⟩ | ⟨g, cap, cur, rfl, hb, hg, hcap, hm, hs, ht⟩
  · obtain rfl : l = [] := List.length_eq_zero_iff.1 hn
    exact Lib.run_convert_nil_bytes w 22 9 5 0 Tryz.underlying22 Tryz.underlying5 Tryz.underlying9
  · refine run_convert_bytes_back w 22 9 5 ⟨g, 0, none⟩ cap l Tryz.underlying22 Tryz.underlying5 Tryz.underlying9 (fun j hj => ?_)
    exact hc (g := g) rfl j _ (by simp [byteV, List.getElem?_eq_getElem hj])
theorem conv_one (w : World) (u : UInt8) (x : Int) (h : (u.toNat : Int) = x) :
    (convert 22 9 (.slice (some ⟨w.heap.size, 0, none⟩) 1 1)).run Tryz.prog (w.alloc (.cells #[.int .u8 x] 5)) = .ok (strV [u]) (w.alloc (.cells #[.int .u8 x] 5)) := by
  subst h
  exact conv_own (l := [u]) (World.ownsRow_lit w #[byteV u] 1 (Nat.le_refl _) (by decide) rfl)
/-- append onto a row of the call's own, as one step of a region that draws its order. -/
theorem step_append_own {P : Program} {ops : Array Oper} {o : Oper} {a : Act} {w : World} {K : Act → World → Prop} {Q : Exit → Act → World → Prop} {E : Prop} (hg : o.guard = none) (s x : Operand) (t : TypeId)
    (ho : o.op = .call { callee := .builtin .append, args := #[s, x], argTypes := #[t, t] })
    (base : Nat) (e : TypeId) (i : TypeInfo) (z : Value) (size bytes : Nat) (ht : P.underlying t = some (.slice e)) (hi : P.info? e = some i) (hz : i.zero = some z)
    (hsize : i.size = size) (hby : i.bytes = bytes) (hzs : z.cells.size = size) (hsz : 0 < size)
    (v : Value) (n : Nat) (xs : List Value) (hs : a.eval s = v) (hown : w.ownsRow base e size v n xs)
    (ad : Addr) (m c : Nat) (news : List Value) (hx : a.eval x = .slice (some ad) m c) (hl : news.length = m * size) (hnews : ∀ j u, news[j]? = some u → w.cell? (ad.add j) = some u) (h1 : ∀ u ∈ news, u.oneCell' = true)
    (h63 : n + m ≤ maxLen) (hbytes : (n + m) * bytes ≤ 140737488355328) (hbase : base ≤ w.heap.size)
    (h : ∀ v' w', w'.ownsRow base e size v' (n + m) (xs ++ news) → w.grownBy w' v.ownBlock → K (a.put o.dst v') w') :
    if Region.wanted o (yielded ops a.tmps) = true then Oper.wp P o a w K Q else E := by
  have hw : Region.wanted o (yielded ops a.tmps) = true := by simp [Region.wanted, hg]
  rw [if_pos hw]
  exact wp_append_own w s x t ho base e i z size bytes ht hi hz hsize hby hzs hsz v n xs hs hown ad m c news hx hl hnews h1 h63 hbytes hbase (fun v' w' a b _ => h v' w' a b)
theorem news2 (w : World) (x y : Value) (T : TypeId) : ∀ (j : Nat) (u : Value), [x, y][j]? = some u → (w.alloc (.cells #[x, y] T)).cell? ((⟨w.heap.size, 0, none⟩ : Addr).add j) = some u := by
  intro j u hu
  match j, hu with
  | 0, hu => simp at hu; subst hu; simp [Addr.add]
  | 1, hu => simp at hu; subst hu; simp [Addr.add]
theorem one2 (x y : UInt8) : ∀ u ∈ [byteV x, byteV y], u.oneCell' = true := by
  intro u hu; simp at hu; rcases hu with rfl | rfl <;> rfl
theorem u8_of (x : Int) (h0 : 0 ≤ x) (h1 : x < 256) : ∃ u : UInt8, (u.toNat : Int) = x := ⟨UInt8.ofNat x.toNat, by
  have : x.toNat < 256 := by omega
  simp [UInt8.toNat_ofNat', Nat.mod_eq_of_lt this]; omega⟩
end Go.Proofs.YtfkleihnafeoeaaGreatDoor

namespace Go.Proofs.YtfkleihnafeoeaaGreatDoor
open Go.RowKit
/-- The cursor lies in block C. -/
def CurAt (w : World) (C : Nat) (a : Option Addr) (len cap : Nat) : Prop :=
  ∃ i h : Int, 0 ≤ i ∧ i ≤ len ∧ w.heap[C]? = some (.cells #[.slice a len cap, .int .i64 i, .int .i64 h] 92 (0, 0))
/-- The code's bytes lie in a block that is not the cursor's. -/
def DataAt (w : World) (C : Nat) (a : Option Addr) (len : Nat) : Prop :=
  len = 0 ∨ ∃ b off, a = some ⟨b, off, none⟩ ∧ b ≠ C ∧ ∀ i, i < len → ∃ x : Nat, x < 256 ∧ w.cell? ⟨b, off + i, none⟩ = some (.int .u8 x)
theorem grownC_trans {a b c : World} {row : Option Nat} (h : a.grownBy b row) (k : b.grownBy c row) : a.grownBy c row :=
  ⟨k.os.trans h.os, k.tape.trans h.tape, k.output.trans h.output, Nat.le_trans h.size k.size, fun i hi hr => (k.block i (Nat.lt_of_lt_of_le hi h.size) hr).trans (h.block i hi hr)⟩
theorem grownC_drew {a w : World} {row : Option Nat} (h : a.grownBy w row) (n : Nat) : a.grownBy (w.drewN n) row := ⟨h.os, h.tape, h.output, h.size, h.block⟩
theorem grown_set {a w : World} {C : Nat} (h : a.grownBy w (some C)) (j : Nat) (v : Value) : a.grownBy (w.setCell ⟨C, j, none⟩ v) (some C) :=
  grownC_trans h ⟨rfl, rfl, rfl, by simp, fun k _ hk => heap_setCell_other w ⟨C, j, none⟩ k v (fun e => hk (by simp [e]))⟩
theorem DataAt.grown {w w' : World} {C : Nat} {a : Option Addr} {len : Nat} (h : DataAt w C a len) (hg : w.grownBy w' (some C)) : DataAt w' C a len := by
  rcases h with h | ⟨b, off, ha, hb, hc⟩
  · exact Or.inl h
  · refine Or.inr ⟨b, off, ha, hb, fun i hi => ?_⟩
    obtain ⟨x, hx, hcell⟩ := hc i hi
    exact ⟨x, hx, hg.cell hcell (by simpa using hb)⟩
theorem i64_and255 (n : Int) : bits .and .i64 n 255 = n % 256 := by
  have h255 : (BitVec.ofInt 64 255).toNat = 2 ^ 8 - 1 := by decide
  have key : (BitVec.ofInt 64 n &&& BitVec.ofInt 64 255).toNat = (n % ((2 ^ 64 : Nat) : Int)).toNat % 2 ^ 8 := by
    rw [BitVec.toNat_and, BitVec.toNat_ofInt, h255, Nat.and_two_pow_sub_one_eq_mod]
  show IntKind.i64.wrap ((BitVec.ofInt 64 n &&& BitVec.ofInt 64 255).toNat : Nat) = n % 256
  rw [key, IntKind.wrap_i64]
  omega
theorem cur_cell {w : World} {C : Nat} {x y z : Value} {T : TypeId} (h : w.heap[C]? = some (.cells #[x, y, z] T (0, 0))) :
    w.cell? ⟨C, 0, none⟩ = some x ∧ w.cell? ⟨C, 1, none⟩ = some y ∧ w.cell? ⟨C, 2, none⟩ = some z ∧ (∀ j, w.frozen? ⟨C, j, none⟩ = false) :=
  ⟨by simp [World.cell?, h], by simp [World.cell?, h], by simp [World.cell?, h], fun j => by simp [World.frozen?, h]⟩
/-- What a drawing step leaves. -/
def Drawn (w : World) (C : Nat) (a : Option Addr) (len cap : Nat) (lo hi : Int) (e : Ending) (w' : World) : Prop :=
  ∃ x : Int, e = .returned (.int .i64 x) ∧ lo ≤ x ∧ x ≤ hi ∧ CurAt w' C a len cap ∧ w.grownBy w' (some C)
set_option maxHeartbeats 2000000 in
set_option maxRecDepth 1000000 in
theorem byte_end (w : World) (C : Nat) (a : Option Addr) (len cap : Nat) (i h : Int) (hi0 : 0 ≤ i) (hil : i ≤ len) (hge : (len : Int) ≤ i)
    (hb : w.heap[C]? = some (.cells #[.slice a len cap, .int .i64 i, .int .i64 h] 92 (0, 0))) :
    Calls Tryz.prog 88 #[.pointer (some ⟨C, 0, none⟩)] w (Drawn w C a len cap 0 255) := by
  obtain ⟨c0, c1, c2, hf⟩ := cur_cell hb
  have f2 := hf 2
  clear hf
  have HB := Lib.hid hb
  clear hb
  go_enter Tryz.func88, Tryz.ntmps88
  go_wp2
  generalize wrap64 (wrap64 (h * 6364136223846793005) + 1442695040888963407) = h2
  have hb2 : (w.setCell ⟨C, 2, none⟩ (.int .i64 h2)).heap[C]? = some (.cells #[.slice a len cap, .int .i64 i, .int .i64 h2] 92 (0, 0)) := by
    rw [heap_setCell_same w C 2 _ _ (.int .i64 h2) HB.out]; rfl
  have hg2 := grown_set (World.grownBy.refl w (some C)) 2 (.int .i64 h2)
  generalize w.setCell ⟨C, 2, none⟩ (.int .i64 h2) = w2 at hb2 hg2 ⊢
  clear c0 c1 c2 f2 HB
  obtain ⟨c0, c1, c2, hf⟩ := cur_cell hb2
  clear hf
  have HB2 := Lib.hid hb2
  clear hb2
  go_quiet (fail)
  go_wp2
  go_quiet (fail)
  go_wp2
  go_ret
  exact ⟨_, rfl, by rw [i64_and255]; omega, by rw [i64_and255]; omega, ⟨i, h2, hi0, hil, HB2.out⟩, grownC_drew (grownC_drew hg2 _) _⟩
set_option maxHeartbeats 2000000 in
set_option maxRecDepth 1000000 in
theorem byte_mid (w : World) (C : Nat) (b off len cap q x : Nat) (h : Int) (hlen : len ≤ 1048576) (hq : q < len) (hx : x < 256) (hne : b ≠ C)
    (hd : w.cell? ⟨b, off + q, none⟩ = some (.int .u8 x))
    (hb : w.heap[C]? = some (.cells #[.slice (some ⟨b, off, none⟩) len cap, .int .i64 q, .int .i64 h] 92 (0, 0))) :
    Calls Tryz.prog 88 #[.pointer (some ⟨C, 0, none⟩)] w (Drawn w C (some ⟨b, off, none⟩) len cap 0 255) := by
  obtain ⟨c0, c1, c2, hf⟩ := cur_cell hb
  have f2 := hf 2
  clear hf
  have HB := Lib.hid hb
  have HD := Lib.hid hd
  have HNE := Lib.hid hne
  clear hb hd hne
  go_enter Tryz.func88, Tryz.ntmps88
  go_wp2
  generalize wrap64 (wrap64 (h * 6364136223846793005) + 1442695040888963407) = h2
  have hb2 : (w.setCell ⟨C, 2, none⟩ (.int .i64 h2)).heap[C]? = some (.cells #[.slice (some ⟨b, off, none⟩) len cap, .int .i64 q, .int .i64 h2] 92 (0, 0)) := by
    rw [heap_setCell_same w C 2 _ _ (.int .i64 h2) HB.out]; rfl
  have hg2 := grown_set (World.grownBy.refl w (some C)) 2 (.int .i64 h2)
  generalize w.setCell ⟨C, 2, none⟩ (.int .i64 h2) = w2 at hb2 hg2 ⊢
  clear c0 c1 c2 f2 HB
  obtain ⟨c0, c1, c2, hf⟩ := cur_cell hb2
  have f1 := hf 1
  clear hf
  have hd2 : w2.cell? ⟨b, off + q, none⟩ = some (.int .u8 x) := hg2.cell HD.out (by simpa using HNE.out)
  have HB2 := Lib.hid hb2
  clear hb2
  go_quiet (fail)
  go_wp2
  go_quiet (fail)
  go_wp2
  go_quiet (fail)
  go_wp2
  go_ret
  exact ⟨_, rfl, by rw [i64_and255]; omega, by rw [i64_and255]; omega, ⟨(q : Int) + 1, h2, by omega, by omega, heap_setCell_same _ C 1 _ _ _ HB2.out⟩, grown_set (grownC_drew hg2 _) 1 _⟩
theorem byte_any (w : World) (C : Nat) (a : Option Addr) (len cap : Nat) (hlen : len ≤ 1048576) (hc : CurAt w C a len cap) (hd : DataAt w C a len) :
    Calls Tryz.prog 88 #[.pointer (some ⟨C, 0, none⟩)] w (Drawn w C a len cap 0 255) := by
  obtain ⟨i, h, hi0, hil, hb⟩ := hc
  by_cases hge : (len : Int) ≤ i
  · exact byte_end w C a len cap i h hi0 hil hge hb
  · obtain ⟨q, rfl⟩ : ∃ q : Nat, i = q := ⟨i.toNat, by omega⟩
    rcases hd with h0 | ⟨b, off, rfl, hne, hcell⟩
    · omega
    · obtain ⟨x, hx, hcx⟩ := hcell q (by omega)
      exact byte_mid w C b off len cap q x h hlen (by omega) hx hne hcx hb
set_option maxHeartbeats 2000000 in
set_option maxRecDepth 1000000 in
theorem below_small (w : World) (C : Nat) (a : Option Addr) (len cap : Nat) (n : Int) (hlen : len ≤ 1048576) (hc : CurAt w C a len cap) (hd : DataAt w C a len) (h0 : 0 < n) (h1 : n ≤ 256) :
    Calls Tryz.prog 76 #[.pointer (some ⟨C, 0, none⟩), .int .i64 n] w (Drawn w C a len cap 0 (n - 1)) := by
  have F := Lib.hid (byte_any w C a len cap hlen hc hd)
  clear hc hd
  go_enter Tryz.func76, Tryz.ntmps76
  go_wp2_with fail
  refine F.out.mono ?_
  rintro e w1 ⟨x, rfl, hx0, hx1, hcur, hg⟩
  have HC := Lib.hid hcur
  have HG := Lib.hid hg
  clear hcur hg
  go_wp2
  go_ret
  exact ⟨_, rfl, Int.emod_nonneg _ (by omega), by have := Int.emod_lt_of_pos x h0; omega, HC.out, HG.out⟩
set_option maxHeartbeats 2000000 in
set_option maxRecDepth 1000000 in
theorem below_big (w : World) (C : Nat) (a : Option Addr) (len cap : Nat) (n : Int) (hlen : len ≤ 1048576) (hc : CurAt w C a len cap) (hd : DataAt w C a len) (h0 : 256 < n) :
    Calls Tryz.prog 76 #[.pointer (some ⟨C, 0, none⟩), .int .i64 n] w (Drawn w C a len cap 0 (n - 1)) := by
  have F := Lib.hid (byte_any w C a len cap hlen hc hd)
  have HD := Lib.hid hd
  clear hc hd
  go_enter Tryz.func76, Tryz.ntmps76
  go_wp2_with fail
  refine F.out.mono ?_
  rintro e w1 ⟨x1, rfl, hx0, hx1, hcur, hg⟩
  have F1 := Lib.hid (byte_any w1 C a len cap hlen hcur (HD.out.grown hg))
  have HG := Lib.hid hg
  clear hcur hg
  go_wp2_with fail
  refine F1.out.mono ?_
  rintro e w2 ⟨x2, rfl, hy0, hy1, hcur, hg⟩
  have HG2 := Lib.hid (grownC_trans HG.out hg)
  have F2 := Lib.hid (byte_any w2 C a len cap hlen hcur (HD.out.grown HG2.out))
  clear hcur hg
  go_wp2_with fail
  refine F2.out.mono ?_
  rintro e w3 ⟨x3, rfl, hz0, hz1, hcur, hg⟩
  have HG3 := Lib.hid (grownC_trans HG2.out hg)
  have F3 := Lib.hid (byte_any w3 C a len cap hlen hcur (HD.out.grown HG3.out))
  clear hcur hg
  go_wp2_with fail
  refine F3.out.mono ?_
  rintro e w4 ⟨x4, rfl, hu0, hu1, hcur, hg⟩
  have HG4 := Lib.hid (grownC_trans HG3.out hg)
  have HC := Lib.hid hcur
  clear hcur hg
  go_wp2
  go_ret
  exact ⟨_, rfl, Int.emod_nonneg _ (by omega), by have := Int.emod_lt_of_pos (x1 * 16777216 + x2 * 65536 + x3 * 256 + x4) (show 0 < n by omega); omega, HC.out, HG4.out⟩
theorem below_any (w : World) (C : Nat) (a : Option Addr) (len cap : Nat) (n : Int) (hlen : len ≤ 1048576) (hc : CurAt w C a len cap) (hd : DataAt w C a len) (h0 : 0 < n) :
    Calls Tryz.prog 76 #[.pointer (some ⟨C, 0, none⟩), .int .i64 n] w (Drawn w C a len cap 0 (n - 1)) := by
  by_cases h : n ≤ 256
  · exact below_small w C a len cap n hlen hc hd h0 h
  · exact below_big w C a len cap n hlen hc hd (by omega)
end Go.Proofs.YtfkleihnafeoeaaGreatDoor

namespace Go.Proofs.YtfkleihnafeoeaaGreatDoor
open Go.RowKit
/-- The code's bytes as they came in. -/
def CodeIn (w : World) (a : Option Addr) (len : Nat) : Prop := len = 0 ∨ ∃ b off, a = some ⟨b, off, none⟩ ∧ b < w.heap.size ∧ ∀ i, i < len → ∃ x : Nat, x < 256 ∧ w.cell? ⟨b, off + i, none⟩ = some (.int .u8 x)
theorem CodeIn.below {w w' : World} {a : Option Addr} {len : Nat} (h : CodeIn w a len) (hb : Below w.heap.size w w') : CodeIn w' a len := by
  rcases h with h | ⟨b, off, ha, hlt, hc⟩
  · exact Or.inl h
  · exact Or.inr ⟨b, off, ha, Nat.lt_of_lt_of_le hlt hb.size, fun i hi => by
      obtain ⟨x, hx, hcell⟩ := hc i hi
      exact ⟨x, hx, (hb.cell (p := ⟨b, off + i, none⟩) hlt).trans hcell⟩⟩
/-- The new cursor. -/
def NewCur (w : World) (a : Option Addr) (len cap : Nat) (e : Ending) (w' : World) : Prop :=
  e = .returned (.pointer (some ⟨w.heap.size, 0, none⟩)) ∧ CurAt w' w.heap.size a len cap ∧ DataAt w' w.heap.size a len ∧ Below w.heap.size w w'
theorem new_end (w : World) (a : Option Addr) (len cap : Nat) (h : Int) (hd : CodeIn w a len) :
    CurAt (w.alloc (.cells #[.slice a len cap, .int .i64 0, .int .i64 h] 92)) w.heap.size a len cap ∧ DataAt (w.alloc (.cells #[.slice a len cap, .int .i64 0, .int .i64 h] 92)) w.heap.size a len := by
  refine ⟨⟨0, h, by omega, by omega, heap_alloc_new _ _⟩, ?_⟩
  rcases hd with hd | ⟨b, off, ha, hlt, hc⟩
  · exact Or.inl hd
  · exact Or.inr ⟨b, off, ha, by omega, fun i hi => by
      obtain ⟨x, hx, hcell⟩ := hc i hi
      exact ⟨x, hx, (World.cell?_alloc_past _ _ _ hlt).trans hcell⟩⟩
set_option maxHeartbeats 2000000 in
set_option maxRecDepth 1000000 in
theorem new_any (w : World) (a : Option Addr) (len cap : Nat) (hlen : len ≤ 1048576) (hd : CodeIn w a len) :
    Calls Tryz.prog 50 #[.slice a len cap] w (NewCur w a len cap) := by
  have HD := Lib.hid hd
  clear hd
  go_enter Tryz.func50, Tryz.ntmps50
  go_wp2
  go_loop [3, 4] (fun h i => ∃ (k : Nat) (hh : Int), k ≤ len ∧ i = .int .i64 k ∧ h = .int .i64 hh) (fun _ i => len - (intOf i).toNat)
  case atStart => exact ⟨0, _, Nat.zero_le _, rfl, rfl⟩
  case round =>
    obtain ⟨k, hh, hk, rfl, rfl⟩ := hrel
    by_cases hlt : k < len ∧ k < 4000
    · obtain ⟨hl, h4⟩ := hlt
      rcases HD.out with h0 | ⟨b, off, ha, hbl, hc⟩
      · omega
      · subst ha
        obtain ⟨x, hx, hcell⟩ := hc k hl
        clear hc
        go_wp2
        go_round
        case rel => exact ⟨k + 1, _, by omega, by go_num, rfl⟩
        case measure => simp [intOf]; omega
    · by_cases hl : k < len
      · have h4 : 4000 ≤ k := by omega
        clear hlt
        go_wp2
        go_ret
        exact ⟨rfl, (new_end w a len cap hh HD.out).1, (new_end w a len cap hh HD.out).2, (Below.refl _ _).alloc (Nat.le_refl _) _⟩
      · have hl' : len ≤ k := by omega
        clear hlt hl
        go_wp2
        go_ret
        exact ⟨rfl, (new_end w a len cap hh HD.out).1, (new_end w a len cap hh HD.out).2, (Below.refl _ _).alloc (Nat.le_refl _) _⟩
/-- A drawn text. -/
def DrawnText (w : World) (C : Nat) (a : Option Addr) (len cap most : Nat) (e : Ending) (w' : World) : Prop :=
  ∃ t : List UInt8, e = .returned (strV t) ∧ t.length ≤ most ∧ CurAt w' C a len cap ∧ w.grownBy w' (some C)
theorem CurAt.lt {w : World} {C : Nat} {a : Option Addr} {len cap : Nat} (h : CurAt w C a len cap) : C < w.heap.size := by
  obtain ⟨i, h, _, _, hb⟩ := h
  exact (Array.getElem?_eq_some_iff.1 hb).1
theorem CurAt.other {w w' : World} {C : Nat} {a : Option Addr} {len cap : Nat} (h : CurAt w C a len cap) (hb : w'.heap[C]? = w.heap[C]?) : CurAt w' C a len cap := by
  obtain ⟨i, h, h0, h1, hc⟩ := h
  exact ⟨i, h, h0, h1, hb.trans hc⟩
/-- A row of the call's own beside the cursor: it grows by one, the cursor stands. -/
theorem text_step {w wr w1 w2 : World} {C B : Nat} {a : Option Addr} {len cap : Nat} {v : Value} {o : Obj} {d : List UInt8} (hB : w.heap.size = B) (hC : C < B) (hown : w1.ownsRow B 5 1 v d.length (d.map byteV))
    (hg : w.grownBy wr (some C)) (hg1 : wr.grownBy w1 (some C)) (hcur : CurAt w1 C a len cap) (hgrow : (w1.alloc o).grownBy w2 v.ownBlock) : CurAt w2 C a len cap ∧ w.grownBy w2 (some C) := by
  have hg01 := grownC_trans hg hg1
  have hne : ∀ k, k < B → some k ≠ v.ownBlock := fun k hk e => by have := (hown.lt k e.symm).1; omega
  refine ⟨hcur.other ?_, ⟨hgrow.os.trans hg01.os, hgrow.tape.trans hg01.tape, hgrow.output.trans hg01.output, ?_, fun k hk hkc => ?_⟩⟩
  · rw [hgrow.block C (by have := hcur.lt; simp; omega) (hne C hC)]
    exact heap_alloc_old w1 o hcur.lt
  · have := hgrow.size; have := hg01.size; simp at *; omega
  · have hk1 : k < w1.heap.size := Nat.lt_of_lt_of_le hk hg01.size
    rw [hgrow.block k (by simp; omega) (hne k (by omega)), heap_alloc_old w1 o hk1]
    exact hg01.block k hk hkc
end Go.Proofs.YtfkleihnafeoeaaGreatDoor

namespace Go.Proofs.YtfkleihnafeoeaaGreatDoor
open Go.RowKit
/-- Any int. -/
abbrev AnyInt (w : World) (C : Nat) (a : Option Addr) (len cap : Nat) (e : Ending) (w' : World) : Prop := Drawn w C a len cap (-9223372036854775808) 9223372036854775807 e w'
set_option maxHeartbeats 2000000 in
set_option maxRecDepth 1000000 in
theorem pick_any (w : World) (C : Nat) (a : Option Addr) (len cap L m cp : Nat) (hlen : len ≤ 1048576) (hc : CurAt w C a len cap) (hd : DataAt w C a len) (hm0 : 0 < m) (hm : m ≤ 1000) (hne : L ≠ C)
    (hcells : ∀ i, i < m → ∃ x : Int, -9223372036854775808 ≤ x ∧ x ≤ 9223372036854775807 ∧ w.cell? ⟨L, i, none⟩ = some (.int .i64 x)) :
    Calls Tryz.prog 77 #[.pointer (some ⟨C, 0, none⟩), .slice (some ⟨L, 0, none⟩) m cp] w (AnyInt w C a len cap) := by
  have F := Lib.hid (below_any w C a len cap m hlen hc hd (by omega))
  have HCE := Lib.hid hcells
  have HNE := Lib.hid hne
  clear hc hd hcells hne
  go_enter Tryz.func77, Tryz.ntmps77
  go_wp2_with fail
  refine F.out.mono ?_
  rintro e w1 ⟨r, rfl, hr0, hr1, hcur, hg⟩
  obtain ⟨q, rfl⟩ : ∃ q : Nat, r = q := ⟨r.toNat, by omega⟩
  obtain ⟨x, hx0, hx1, hcell⟩ := HCE.out q (by omega)
  have hcell1 : w1.cell? ⟨L, q, none⟩ = some (.int .i64 x) := hg.cell hcell (by simpa using HNE.out)
  have hqm : q < m := by omega
  have HC := Lib.hid hcur
  have HG := Lib.hid hg
  clear hcur hg F hcell
  go_wp2
  go_ret
  exact ⟨_, rfl, hx0, hx1, HC.out, HG.out⟩
def picks : List Int := [-1, 0, 127, 128, 255, 256, 16383, 16384, 65535, 65536, 562949953421311, 562949953421312, 999999999, 1000000000, -999999999, 9223372036854775807, -9223372036854775808]
theorem picks_fit (i : Nat) (h : i < 17) : ∃ x : Int, -9223372036854775808 ≤ x ∧ x ≤ 9223372036854775807 ∧ (picks.map (Value.int .i64)).toArray[i]? = some (.int .i64 x) := by
  have : i = 0 ∨ i = 1 ∨ i = 2 ∨ i = 3 ∨ i = 4 ∨ i = 5 ∨ i = 6 ∨ i = 7 ∨ i = 8 ∨ i = 9 ∨ i = 10 ∨ i = 11 ∨ i = 12 ∨ i = 13 ∨ i = 14 ∨ i = 15 ∨ i = 16 := by omega
  rcases this with rfl | rfl | rfl | rfl | rfl | rfl | rfl | rfl | rfl | rfl | rfl | rfl | rfl | rfl | rfl | rfl | rfl <;> exact ⟨_, by decide, by decide, rfl⟩
theorem mul_fit (x y : Int) (hx0 : 0 ≤ x) (hx1 : x ≤ 999999999) (hy0 : 0 ≤ y) (hy1 : y ≤ 999999999) : 0 ≤ x * y ∧ x * y ≤ 999999998000000001 := by
  refine ⟨Int.mul_nonneg hx0 hy0, ?_⟩
  have h1 : x * y ≤ 999999999 * y := Int.mul_le_mul_of_nonneg_right hx1 hy0
  omega
theorem below_of {w w1 w2 : World} (hb : Below w.heap.size w w1) (hg : w1.grownBy w2 (some w.heap.size)) : Below w.heap.size w w2 :=
  hb.grown hg hb.size (fun k hk => by cases hk; exact Nat.le_refl _)
end Go.Proofs.YtfkleihnafeoeaaGreatDoor

namespace Go.Proofs.YtfkleihnafeoeaaGreatDoor
open Go.RowKit
set_option maxRecDepth 1000000
theorem keepD {w w' : World} {p : Addr} {v : Value} (hb : Below w.heap.size w w') (h : w.cell? p = some v) : w'.cell? p = some v := keepC hb (World.block_lt_of_cell? w _ h) h
end Go.Proofs.YtfkleihnafeoeaaGreatDoor

namespace Go.Proofs.YtfkleihnafeoeaaGreatDoor
open Go.RowKit
set_option maxRecDepth 1000000
theorem own_slice' {w : World} {B n : Nat} {v : Value} {l : List Int} (hn : n = l.length) (h : w.ownsRow B 3 1 v n (l.map (Value.int .i64))) : ∃ a cap, v = .slice a n cap := by
  subst hn
  obtain ⟨h1, h2⟩ := h
  rcases h2 with ⟨h2, h3⟩ | ⟨g, cap, cur, hv, _⟩
  · have : l = [] := by simpa using h3
    subst this
    exact ⟨none, 0, h2⟩
  · exact ⟨_, cap, hv⟩
theorem own_ints' {w : World} {B n cap : Nat} {a : Option Addr} {l : List Int} (hn : n = l.length) (h : w.ownsRow B 3 1 (.slice a n cap) n (l.map (Value.int .i64))) : Ints w a l := by
  subst hn
  obtain ⟨h1, h2⟩ := h
  rcases h2 with ⟨h2, h3⟩ | ⟨g, cap, cur, hv, hb, hg, h4, h5, h6, h7⟩
  · exact .inl (by simpa using h3)
  · cases hv
    exact ints_own ⟨h1, .inr ⟨g, cap, cur, rfl, hb, hg, h4, h5, h6, h7⟩⟩
theorem one_cell {w : World} {b : Nat} {v : Value} {T : TypeId} (h : w.heap[b]? = some (.cells #[v] T (0, 0))) : w.cell? ⟨b, 0, none⟩ = some v ∧ w.frozen? ⟨b, 0, none⟩ = false :=
  ⟨by simp [World.cell?, h], by simp [World.frozen?, h]⟩
theorem set_one {w : World} {b : Nat} {v u : Value} {T : TypeId} (h : w.heap[b]? = some (.cells #[v] T (0, 0))) : (w.setCell ⟨b, 0, none⟩ u).heap[b]? = some (.cells #[u] T (0, 0)) := by
  rw [heap_setCell_same w b 0 _ _ u h]; rfl
end Go.Proofs.YtfkleihnafeoeaaGreatDoor

namespace Go.Proofs.YtfkleihnafeoeaaGreatDoor
open Go.RowKit
set_option maxRecDepth 1000000
/-- The drawn lists of orders. -/
def drawOL : List (List Int) := [[], [2], [3], [4], [5], [6], [7], [8], [9], [10], [11], [12], [2, 2], [2, 4], [3, 3], [2, 6], [2, 2, 2], [13], [16], [4, 4], [2, 2, 3], [2, 3], [24]]
def pushAll (w : World) (os : List Obj) : World := os.foldl (fun w o => w.alloc o) w
theorem push_size (w : World) (os : List Obj) : (pushAll w os).heap.size = w.heap.size + os.length := by
  unfold pushAll
  induction os generalizing w with
  | nil => simp
  | cons o r ih => simp only [List.foldl_cons]; rw [ih]; simp; omega
theorem push_grown (w : World) (os : List Obj) (row : Option Nat) : w.grownBy (pushAll w os) row := by
  unfold pushAll
  induction os generalizing w with
  | nil => exact World.grownBy.refl _ _
  | cons o r ih => simp only [List.foldl_cons]; exact grownG_trans (World.grownBy_alloc w o row) (ih _)
theorem push_at (w : World) (os : List Obj) (j : Nat) (o : Obj) (h : os[j]? = some o) : (pushAll w os).heap[w.heap.size + j]? = some o := by
  induction os generalizing w j with
  | nil => simp at h
  | cons o' r ih =>
    cases j with
    | zero =>
      simp at h
      subst h
      have := (push_grown (w.alloc o') r none).block w.heap.size (by simp) (by simp)
      show (pushAll (w.alloc o') r).heap[w.heap.size + 0]? = _
      rw [Nat.add_zero, this]
      exact heap_alloc_new w _
    | succ j =>
      have := ih (w.alloc o') j (by simpa using h)
      show (pushAll (w.alloc o') r).heap[w.heap.size + (j + 1)]? = _
      rw [show w.heap.size + (j + 1) = (w.alloc o').heap.size + j by simp; omega]
      exact this
/-- The blocks of the drawn lists, from block b on. -/
def drawObjs (b : Nat) : List Obj := drawOL.map (fun l => .cells (l.map (Value.int .i64)).toArray 3) ++ [.cells (((List.range 23).map fun j => Value.slice (some ⟨b + j, 0, none⟩) (drawOL.getD j []).length (drawOL.getD j []).length)).toArray 24]
theorem draw_short (j : Nat) (h : j < 23) : (drawOL.getD j []).length ≤ 3 := by
  have : (List.range 23).all (fun j => decide ((drawOL.getD j []).length ≤ 3)) = true := by decide
  simpa using List.all_eq_true.1 this j (List.mem_range.2 h)
theorem draw_obj (b j : Nat) (h : j < 23) : (drawObjs b)[j]? = some (.cells ((drawOL.getD j []).map (Value.int .i64)).toArray 3) := by
  have hl : j < drawOL.length := h
  unfold drawObjs
  rw [List.getElem?_append_left (by simpa using hl), List.getElem?_map, List.getElem?_eq_getElem hl]
  simp [List.getD, hl]
theorem draw_outer (b : Nat) : (drawObjs b)[23]? = some (.cells (((List.range 23).map fun j => Value.slice (some ⟨b + j, 0, none⟩) (drawOL.getD j []).length (drawOL.getD j []).length)).toArray 24) := rfl
theorem draw_cell {W : World} {B b j : Nat} (h : W.heap[B]? = some (.cells (((List.range 23).map fun j => Value.slice (some ⟨b + j, 0, none⟩) (drawOL.getD j []).length (drawOL.getD j []).length)).toArray 24 (0, 0))) (hj : j < 23) :
    W.cell? ⟨B, j, none⟩ = some (.slice (some ⟨b + j, 0, none⟩) (drawOL.getD j []).length (drawOL.getD j []).length) := by
  rw [Joins.cell_of_block h j]
  simp [hj]
theorem draw_ints {W : World} {b : Nat} {l : List Int} (h : W.heap[b]? = some (.cells (l.map (Value.int .i64)).toArray 3 (0, 0))) : Ints W (some ⟨b, 0, none⟩) l := by
  refine .inr ⟨b, 0, rfl, (Array.getElem?_eq_some_iff.1 h).1, fun i hi => ?_⟩
  rw [Joins.cell_of_block h (0 + i)]
  simp [List.getD, hi]
theorem ints_grown {w w' : World} {b : Nat} {l : List Int} {row : Option Nat} (h : Ints w (some ⟨b, 0, none⟩) l) (hg : w.grownBy w' row) (hne : some b ≠ row) : Ints w' (some ⟨b, 0, none⟩) l := by
  rcases h with h | ⟨b', off, ha, hlt, hc⟩
  · exact .inl h
  · injection ha with ha; injection ha with e1 e2 e3
    subst e1; subst e2
    exact .inr ⟨b, 0, rfl, Nat.lt_of_lt_of_le hlt hg.size, fun i hi => by exact hg.cell (hc i hi) hne⟩
theorem ints_lt {w : World} {b : Nat} {l : List Int} {k : Nat} (h : Ints w (some ⟨b, 0, none⟩) l) (hk : k < l.length) : w.cell? ⟨b, k, none⟩ = some (.int .i64 (l.getD k 0)) := by
  rcases h with h | ⟨b', off, ha, hlt, hc⟩
  · subst h; simp at hk
  · injection ha with ha; injection ha with e1 e2 e3
    subst e1; subst e2
    simpa using hc k hk
/-- A write to a block made since leaves the frame. -/
theorem grown_newset {a w : World} {row : Option Nat} (h : a.grownBy w row) {b : Nat} (hb : a.heap.size ≤ b) (v : Value) : a.grownBy (w.setCell ⟨b, 0, none⟩ v) row :=
  ⟨h.os, h.tape, h.output, by simpa using h.size, fun k hk hr => (heap_setCell_other w ⟨b, 0, none⟩ k v (fun e => by simp at e; omega)).trans (h.block k hk hr)⟩
theorem ownsRow_lower {w : World} {base base' : Nat} {e : TypeId} {size : Nat} {v : Value} {n : Nat} {xs : List Value} (h : w.ownsRow base e size v n xs) (hb : base' ≤ base) : w.ownsRow base' e size v n xs :=
  ⟨h.1, h.2.imp id fun ⟨g, cap, cur, hv, hg, r⟩ => ⟨g, cap, cur, hv, Nat.le_trans hb hg, r⟩⟩
/-- The drawn group's block, filled with a row of the call's own, and the cursor. -/
theorem group_end {w w3 wa : World} {C : Nat} {a : Option Addr} {len cap n : Nat} {v : Value} {xs : List Value} (hC : C < w.heap.size) (hc : CurAt w3 C a len cap) (hC3 : C < w3.heap.size) (h3 : w.grownBy w3 (some C)) (hs : w.heap.size < w3.heap.size)
    (ha : w3.grownBy wa none) (ho : wa.ownsRow w3.heap.size 3 1 v n xs) :
    (wa.setCell ⟨w.heap.size, 0, none⟩ v).ownsRow w.heap.size 3 1 v n xs ∧ CurAt (wa.setCell ⟨w.heap.size, 0, none⟩ v) C a len cap ∧ w.grownBy (wa.setCell ⟨w.heap.size, 0, none⟩ v) (some C) := by
  refine ⟨ownsRow_lower (ownsRow_setCell_below (a := ⟨w.heap.size, 0, none⟩) ho hs v) (Nat.le_of_lt hs), hc.other ?_, grown_newset (grownC_trans h3 ⟨ha.os, ha.tape, ha.output, ha.size, fun k hk _ => ha.block k hk (by simp)⟩) (Nat.le_refl _) v⟩
  rw [heap_setCell_other _ _ _ _ (fun e => by simp at e; omega)]
  exact ha.block C hC3 (by simp)
set_option maxHeartbeats 4000000 in
theorem l2Draw_any (w : World) (C : Nat) (a : Option Addr) (len cap : Nat) (most : Int) (hlen : len ≤ 1048576) (hc : CurAt w C a len cap) (hd : DataAt w C a len) :
    Calls Tryz.prog 75 #[.pointer (some ⟨C, 0, none⟩), .int .i64 most] w fun e w' => ∃ (u : Value) (l : List Int), e = .returned (.agg #[u]) ∧ w'.ownsRow w.heap.size 3 1 u l.length (l.map (Value.int .i64)) ∧ l.length ≤ 3 ∧ CurAt w' C a len cap ∧ w.grownBy w' (some C) := by
  have HC := Lib.hid hc
  have HD := Lib.hid hd
  have hCw : C < w.heap.size := hc.lt
  have HG0 := Lib.hid (grownG_trans (World.grownBy_alloc w (.cells #[.slice none 0 0] 26) (some C)) (push_grown (w.alloc (.cells #[.slice none 0 0] 26)) (drawObjs (w.heap.size + 1)) (some C)))
  have HG0n := Lib.hid (grownG_trans (World.grownBy_alloc w (.cells #[.slice none 0 0] 26) none) (push_grown (w.alloc (.cells #[.slice none 0 0] 26)) (drawObjs (w.heap.size + 1)) none))
  have HSZ := Lib.hid (push_size (w.alloc (.cells #[.slice none 0 0] 26)) (drawObjs (w.heap.size + 1)))
  have HR0 : Hid ((pushAll (w.alloc (.cells #[.slice none 0 0] 26)) (drawObjs (w.heap.size + 1))).heap[w.heap.size]? = some (.cells #[.slice none 0 0] 26 (0, 0))) := Lib.hid (((push_grown (w.alloc (.cells #[.slice none 0 0] 26)) (drawObjs (w.heap.size + 1)) none).block w.heap.size (by simp) (by simp)).trans (heap_alloc_new w _))
  have HAT : Hid (∀ j o, (drawObjs (w.heap.size + 1))[j]? = some o → (pushAll (w.alloc (.cells #[.slice none 0 0] 26)) (drawObjs (w.heap.size + 1))).heap[w.heap.size + 1 + j]? = some o) := Lib.hid (fun j o h => by have := push_at (w.alloc (.cells #[.slice none 0 0] 26)) (drawObjs (w.heap.size + 1)) j o h; simpa using this)
  clear hc hd
  obtain ⟨i0, hi0, hz0, hz1, hz2⟩ := info_parts intInfo
  go_enter Tryz.func75, Tryz.ntmps75
  go_upto_region 2 with (fail)
  change Code.wp Tryz.prog _ _ _ (pushAll (w.alloc (.cells #[.slice none 0 0] 26)) (drawObjs (w.heap.size + 1)))
  generalize pushAll (w.alloc (.cells #[.slice none 0 0] 26)) (drawObjs (w.heap.size + 1)) = W at *
  have HCW := Lib.hid (HC.out.other (HG0n.out.block C hCw (by simp)))
  have HDW := Lib.hid (HD.out.grown HG0.out)
  have HBS := Lib.hid (below_small W C a len cap 23 hlen HCW.out HDW.out (by decide) (by decide))
  have HO : Hid (W.heap[w.heap.size + 1 + 1 + 1 + 1 + 1 + 1 + 1 + 1 + 1 + 1 + 1 + 1 + 1 + 1 + 1 + 1 + 1 + 1 + 1 + 1 + 1 + 1 + 1 + 1]? = some (.cells (((List.range 23).map fun j => Value.slice (some ⟨w.heap.size + 1 + j, 0, none⟩) (drawOL.getD j []).length (drawOL.getD j []).length)).toArray 24 (0, 0))) := Lib.hid (HAT.out 23 _ (draw_outer _))
  go_upto_region 3 with (first
    | (go_at_call 76; refine HBS.out.mono ?_; rintro e w3 ⟨x, rfl, hx0, hx1, hcur, hg⟩; obtain ⟨j, rfl⟩ : ∃ j : Nat, x = j := ⟨x.toNat, by omega⟩; have hj : j < 23 := (by omega); have rc := hg.cell (draw_cell HO.out hj) (fun e => by simp at e; omega); have HI := Lib.hid (draw_ints (HAT.out j _ (draw_obj _ j hj))); have hs3 := draw_short j hj; have HCU := Lib.hid hcur; have HG3 := Lib.hid hg))
  have hjW : w.heap.size + 1 + j < W.heap.size := by have := HSZ.out; simp [drawObjs, drawOL] at this; omega
  clear HAT HBS HDW HCW HSZ
  have hlE : drawOL.getD j [] = drawOL[j]?.getD [] := by simp [List.getD_eq_getElem?_getD]
  rw [hlE] at HI hs3
  clear hlE HO
  generalize drawOL[j]?.getD [] = l at *
  have HI3 : Hid (Ints w3 (some ⟨w.heap.size + 1 + j, 0, none⟩) l) := Lib.hid (ints_grown HI.out HG3.out (by simp; omega))
  have hsz3 : w.heap.size < w3.heap.size := by have := HG3.out.size; omega
  have R3 : Hid (w3.heap[w.heap.size]? = some (.cells #[.slice none 0 0] 26 (0, 0))) := Lib.hid ((HG3.out.block _ (by omega) (by simp; omega)).trans HR0.out)
  have HW3 := Lib.hid (grownC_trans HG0.out HG3.out)
  clear hcur hg rc HI HG3 HG0 HG0n HR0 hjW
  go_wp2
  go_loop [7, 8] (fun n i => ∃ (k : Nat) (q : Int), k ≤ l.length ∧ i = .int .i64 k ∧ n = .int .i64 q) (fun _ i => l.length - (intOf i).toNat)
  case atStart => exact ⟨0, _, Nat.zero_le _, rfl, rfl⟩
  case round =>
    obtain ⟨k, q, hk, rfl, rfl⟩ := hrel
    by_cases hlt : k < l.length
    · have hcell := ints_lt HI3.out hlt
      go_wp2
      go_round
      case rel => exact ⟨k + 1, _, by omega, by go_num, rfl⟩
      case measure => simp [intOf]; omega
    · by_cases hq : q > most
      · obtain ⟨c1, f1⟩ := one_cell R3.out
        have f1' : (w3.alloc (.cells #[.int .i64 5] 3)).frozen? ⟨w.heap.size, 0, none⟩ = false := (frozen?_alloc_cells _ _ _ _).trans f1
        have c1' : (w3.alloc (.cells #[.int .i64 5] 3)).cell? ⟨w.heap.size, 0, none⟩ = some (.slice none 0 0) := (World.cell?_alloc_past _ _ _ hsz3).trans c1
        have hC3 : C < w3.heap.size := by omega
        have E := Lib.hid (group_end hCw HCU.out hC3 HW3.out hsz3 (World.grownBy_alloc w3 (.cells #[.int .i64 5] 3) none) (World.ownsRow_lit w3 #[.int .i64 5] 1 (Nat.le_refl _) (by decide) rfl))
        rw [World.setCell_alloc_past (.cells #[.int .i64 5] 3) w.heap.size 0 (.slice (some ⟨w3.heap.size, 0, none⟩) 1 1) hsz3] at E
        have c2 : ((w3.setCell ⟨w.heap.size, 0, none⟩ (.slice (some ⟨w3.heap.size, 0, none⟩) 1 1)).alloc (.cells #[.int .i64 5] 3)).cell? ⟨w.heap.size, 0, none⟩ = some (.slice (some ⟨w3.heap.size, 0, none⟩) 1 1) := (World.cell?_alloc_past _ _ _ (by simpa using hsz3)).trans (World.cell?_setCell_same _ _ _ c1)
        go_wp2
        refine bodyPost_ret (v := .agg #[.slice (some ⟨w3.heap.size, 0, none⟩) 1 1]) (by simp [results, Tryz.results75, go_sem, c2]) rfl ?_
        exact ⟨_, rfl, [5], E.out.1, by decide, E.out.2.1, E.out.2.2⟩
      · obtain ⟨c1, f1⟩ := one_cell R3.out
        have hC3 : C < w3.heap.size := by omega
        have HW4 := Lib.hid (World.grownBy_alloc w3 (.cells #[] 3) none)
        have HO4 := Lib.hid (World.ownsRow_lit (e := 3) (size := 1) w3 #[] 0 (Nat.le_refl _) (by decide) rfl)
        have HJ : Hid (w.heap.size + 1 + j < w3.heap.size ∨ l = []) := Lib.hid (by rcases HI3.out with h | ⟨b, off, ha, hb, _⟩; exact .inr h; injection ha with ha; injection ha with e1 _ _; subst e1; exact .inl hb)
        go_wp2_with (at_builtin; refine wpList_append_own _ rfl _ _ 24 rfl w3.heap.size 3 i0 (.int .i64 0) 1 8 Tryz.underlying24 hi0 hz0 hz1 hz2 rfl (by decide) _ _ _ rfl HO4.out ⟨w.heap.size + 1 + j, 0, none⟩ l.length l.length (l.map (Value.int .i64)) rfl (by simp) ?c1 ?c2 ?c3 ?c4 ?c5 ?_)
        case c1 =>
          intro k z hz
          have hk := (List.getElem?_eq_some_iff.1 hz).1
          have hcell := ints_lt HI3.out hk
          have hv : l.getD k 0 = z := by simp [List.getD, hz]
          rw [hv] at hcell
          have hb : w.heap.size + 1 + j < w3.heap.size := by
            rcases HJ.out with h | h
            · exact h
            · subst h; simp at hk
          exact (World.cell?_alloc_past _ _ _ hb).trans hcell
        case c2 => intro z _; rfl
        case c3 => unfold maxLen; omega
        case c4 => omega
        intro v' w' hown hgrow _
        have hgr : w3.grownBy w' none := ⟨hgrow.os.trans HW4.out.os, hgrow.tape.trans HW4.out.tape, hgrow.output.trans HW4.out.output, Nat.le_trans HW4.out.size hgrow.size, fun b hb hn => (hgrow.block b (Nat.lt_of_lt_of_le hb HW4.out.size) (by intro e; simp [Value.ownBlock] at e; omega)).trans (HW4.out.block b hb hn)⟩
        obtain ⟨cg, fg⟩ := one_cell ((hgr.block _ hsz3 (by simp)).trans R3.out)
        obtain ⟨ao, n', cap', rfl⟩ : ∃ ao n' cap', v' = .slice ao n' cap' := by
          rcases hown.2 with ⟨h, _⟩ | ⟨g, cap, cur, h, _⟩
          · exact ⟨_, _, _, h⟩
          · exact ⟨_, _, _, h⟩
        have E := Lib.hid (group_end hCw HCU.out hC3 HW3.out hsz3 hgr hown)
        have c2 := World.cell?_setCell_same w' ⟨w.heap.size, 0, none⟩ (.slice ao n' cap') cg
        clear hown hgrow hgr
        go_wp2
        refine bodyPost_ret (v := .agg #[.slice ao n' cap']) (by simp [results, Tryz.results75, go_sem, c2]) rfl ?_
        exact ⟨_, l, rfl, E.out.1, by omega, E.out.2.1, E.out.2.2⟩
end Go.Proofs.YtfkleihnafeoeaaGreatDoor

namespace Go.Proofs.YtfkleihnafeoeaaGreatDoor
open Go.RowKit
set_option maxRecDepth 1000000
theorem own_form {w : World} {base : Nat} {e : TypeId} {size : Nat} {v : Value} {n : Nat} {xs : List Value} (h : w.ownsRow base e size v n xs) : ∃ ao n' cap', v = .slice ao n' cap' := by
  rcases h.2 with ⟨h, _⟩ | ⟨g, cap, cur, h, _⟩
  · exact ⟨_, _, _, h⟩
  · exact ⟨_, _, _, h⟩
theorem group_end2 {w w3 wa : World} {C B : Nat} {a : Option Addr} {len cap n : Nat} {v : Value} {xs : List Value} (hC : C < w.heap.size) (hc : CurAt w3 C a len cap) (hC3 : C < w3.heap.size) (h3 : w.grownBy w3 (some C)) (hB : w.heap.size < B)
    (ha : w3.grownBy wa none) (ho : wa.ownsRow B 3 1 v n xs) :
    (wa.setCell ⟨w.heap.size, 0, none⟩ v).ownsRow w.heap.size 3 1 v n xs ∧ CurAt (wa.setCell ⟨w.heap.size, 0, none⟩ v) C a len cap ∧ w.grownBy (wa.setCell ⟨w.heap.size, 0, none⟩ v) (some C) := by
  refine ⟨ownsRow_lower (ownsRow_setCell_below (a := ⟨w.heap.size, 0, none⟩) ho hB v) (Nat.le_of_lt hB), hc.other ?_, grown_newset (grownC_trans h3 ⟨ha.os, ha.tape, ha.output, ha.size, fun k hk _ => ha.block k hk (by simp)⟩) (Nat.le_refl _) v⟩
  rw [heap_setCell_other _ _ _ _ (fun e => by simp at e; omega)]
  exact ha.block C hC3 (by simp)
/-- What stands after the group is drawn and the cursor asked once more. -/
theorem any_mid {w w1 w3 : World} {C n : Nat} {u : Value} {xs : List Value} (hC : C < w.heap.size) (h0 : w.grownBy (w.alloc (.cells #[.slice none 0 0] 26)) (some C)) (R0 : (w.alloc (.cells #[.slice none 0 0] 26)).heap[w.heap.size]? = some (.cells #[.slice none 0 0] 26 (0, 0)))
    (ho : w1.ownsRow (w.alloc (.cells #[.slice none 0 0] 26)).heap.size 3 1 u n xs) (hg : (w.alloc (.cells #[.slice none 0 0] 26)).grownBy w1 (some C)) (hg3 : (w1.alloc (.cells #[u] 26)).grownBy w3 (some C)) :
    w3.ownsRow (w.heap.size + 1) 3 1 u n xs ∧ w.grownBy w3 (some C) ∧ w3.heap[w.heap.size]? = some (.cells #[.slice none 0 0] 26 (0, 0)) ∧ w3.cell? ⟨w1.heap.size, 0, none⟩ = some u ∧ w.heap.size < w3.heap.size := by
  have ho' : w1.ownsRow (w.heap.size + 1) 3 1 u n xs := by simpa using ho
  have hs1 : w.heap.size + 1 ≤ w1.heap.size := by simpa using hg.size
  have hs3 : w1.heap.size + 1 ≤ w3.heap.size := by simpa using hg3.size
  refine ⟨(ho'.alloc _).kept hg3 (.inr fun e => ?_), grownC_trans (grownC_trans (grownC_trans h0 hg) (World.grownBy_alloc w1 _ _)) hg3, ?_, hg3.cell (newC w1 u _ rfl) (by simp; omega), by omega⟩
  · have := (ho'.lt C e).1; omega
  · exact (hg3.block _ (by simp; omega) (by simp; omega)).trans (((World.grownBy_alloc w1 (.cells #[u] 26) none).block _ (by omega) (by simp)).trans ((hg.block _ (by simp) (by simp; omega)).trans R0))
set_option maxHeartbeats 4000000 in
theorem l2Any_any (w : World) (C : Nat) (a : Option Addr) (len cap : Nat) (hlen : len ≤ 1048576) (hc : CurAt w C a len cap) (hd : DataAt w C a len) :
    Calls Tryz.prog 49 #[.pointer (some ⟨C, 0, none⟩)] w fun e w' => ∃ (u : Value) (l : List Int), e = .returned (.agg #[u]) ∧ w'.ownsRow w.heap.size 3 1 u l.length (l.map (Value.int .i64)) ∧ l.length ≤ 4 ∧ CurAt w' C a len cap ∧ w.grownBy w' (some C) := by
  have HC := Lib.hid hc
  have HD := Lib.hid hd
  have hCw : C < w.heap.size := hc.lt
  have HG0 := Lib.hid (World.grownBy_alloc w (.cells #[.slice none 0 0] 26) (some C))
  have HCA := Lib.hid (HC.out.other ((World.grownBy_alloc w (.cells #[.slice none 0 0] 26) none).block C hCw (by simp)))
  have HDA := Lib.hid (HD.out.grown HG0.out)
  have HDR := Lib.hid (l2Draw_any (w.alloc (.cells #[.slice none 0 0] 26)) C a len cap 24 hlen HCA.out HDA.out)
  have R0 : Hid ((w.alloc (.cells #[.slice none 0 0] 26)).heap[w.heap.size]? = some (.cells #[.slice none 0 0] 26 (0, 0))) := Lib.hid (heap_alloc_new w _)
  clear hc hd
  go_enter Tryz.func49, Tryz.ntmps49
  go_wp2_with (go_at_call 75; refine HDR.out.mono ?_; rintro e w1 ⟨u, l, rfl, ho1, hl1, hcur1, hg1⟩; obtain ⟨ao, n', cap', rfl⟩ := own_form ho1; have hC1 : C < w1.heap.size := (by have := hg1.size; simp at this; omega))
  refine (below_small _ C a len cap 16 hlen (hcur1.other ((World.grownBy_alloc w1 _ none).block C hC1 (by simp))) (HD.out.grown (grownC_trans (grownC_trans HG0.out hg1) (World.grownBy_alloc w1 _ _))) (by decide) (by decide)).mono ?_
  rintro e w3 ⟨x, rfl, hx0, hx1, hcur, hg⟩
  obtain ⟨ho3, hG3, hR3, c3, hsz3⟩ := any_mid hCw HG0.out R0.out ho1 hg1 hg
  obtain ⟨c1, f1⟩ := one_cell hR3
  have hC3 : C < w3.heap.size := by omega
  have HCU := Lib.hid hcur
  have HW3 := Lib.hid hG3
  have HO3 := Lib.hid ho3
  have R3 := Lib.hid hR3
  have HD3 := Lib.hid (HD.out.grown hG3)
  clear hcur hg hg1 hcur1 ho1 ho3 hG3 hR3 HDR HCA HDA HG0 R0
  by_cases h0 : x = 0
  · subst h0
    go_wp2_with (fail)
    refine (pick_any _ C a len cap w3.heap.size 5 5 hlen ?h1 ?h2 (by omega) (by omega) ?h3 ?h4).mono ?_
    case h1 => exact HCU.out.other (heap_alloc_old w3 _ hC3)
    case h2 => exact HD3.out.grown (World.grownBy_alloc w3 _ _)
    case h3 => omega
    case h4 =>
      intro i hi
      have : ∃ z : Int, -9223372036854775808 ≤ z ∧ z ≤ 9223372036854775807 ∧ (#[.int .i64 0, .int .i64 1, .int .i64 (-1), .int .i64 25, .int .i64 9223372036854775807] : Array Value)[i]? = some (.int .i64 z) := by
        match i, hi with
        | 0, _ => exact ⟨0, by decide, by decide, rfl⟩
        | 1, _ => exact ⟨1, by decide, by decide, rfl⟩
        | 2, _ => exact ⟨-1, by decide, by decide, rfl⟩
        | 3, _ => exact ⟨25, by decide, by decide, rfl⟩
        | 4, _ => exact ⟨9223372036854775807, by decide, by decide, rfl⟩
      obtain ⟨z, hz0, hz1, hz⟩ := this
      exact ⟨z, hz0, hz1, (World.cell?_alloc_at _ _ _ _ rfl).trans hz⟩
    rintro e w4 ⟨z, rfl, hz0, hz1, hcur4, hg4⟩
    have hs4 : w3.heap.size + 1 ≤ w4.heap.size := by simpa using hg4.size
    have hsz4 : w.heap.size < w4.heap.size := by omega
    have HW4 := grownC_trans (grownC_trans HW3.out (World.grownBy_alloc w3 _ _)) hg4
    obtain ⟨c4, f4⟩ := one_cell ((hg4.block _ (by simp; omega) (by simp; omega)).trans ((heap_alloc_old w3 _ hsz3).trans R3.out))
    have E := Lib.hid (group_end hCw hcur4 (by omega) HW4 hsz4 (World.grownBy_alloc w4 (.cells #[.int .i64 z] 3) none) (World.ownsRow_lit w4 #[.int .i64 z] 1 (Nat.le_refl _) (by decide) rfl))
    have c4' : (w4.alloc (.cells #[.int .i64 z] 3)).cell? ⟨w.heap.size, 0, none⟩ = some (.slice none 0 0) := (World.cell?_alloc_past _ _ _ hsz4).trans c4
    have f4' : (w4.alloc (.cells #[.int .i64 z] 3)).frozen? ⟨w.heap.size, 0, none⟩ = false := (frozen?_alloc_cells _ _ _ _).trans f4
    rw [World.setCell_alloc_past (.cells #[.int .i64 z] 3) w.heap.size 0 (.slice (some ⟨w4.heap.size, 0, none⟩) 1 1) hsz4] at E
    have c2 : ((w4.setCell ⟨w.heap.size, 0, none⟩ (.slice (some ⟨w4.heap.size, 0, none⟩) 1 1)).alloc (.cells #[.int .i64 z] 3)).cell? ⟨w.heap.size, 0, none⟩ = some (.slice (some ⟨w4.heap.size, 0, none⟩) 1 1) := (World.cell?_alloc_past _ _ _ (by simpa using hsz4)).trans (World.cell?_setCell_same _ _ _ c4)
    clear HW4 hg4 hcur4 c3 c1 f1
    go_wp2
    refine bodyPost_ret (v := .agg #[.slice (some ⟨w4.heap.size, 0, none⟩) 1 1]) (by simp [results, Tryz.results49, go_sem, c2]) rfl ?_
    exact ⟨_, [z], rfl, E.out.1, by simp, E.out.2.1, E.out.2.2⟩
  · have e0 : (x == 0) = false := by simpa using h0
    by_cases h1 : x = 1
    · subst h1
      have E := Lib.hid (group_end hCw HCU.out hC3 HW3.out hsz3 (World.grownBy_alloc w3 (.cells #[.int .i64 2, .int .i64 2, .int .i64 2, .int .i64 2] 3) none) (World.ownsRow_lit w3 #[.int .i64 2, .int .i64 2, .int .i64 2, .int .i64 2] 4 (Nat.le_refl _) (by decide) rfl))
      have c1' : (w3.alloc (.cells #[.int .i64 2, .int .i64 2, .int .i64 2, .int .i64 2] 3)).cell? ⟨w.heap.size, 0, none⟩ = some (.slice none 0 0) := (World.cell?_alloc_past _ _ _ hsz3).trans c1
      have f1' : (w3.alloc (.cells #[.int .i64 2, .int .i64 2, .int .i64 2, .int .i64 2] 3)).frozen? ⟨w.heap.size, 0, none⟩ = false := (frozen?_alloc_cells _ _ _ _).trans f1
      rw [World.setCell_alloc_past (.cells #[.int .i64 2, .int .i64 2, .int .i64 2, .int .i64 2] 3) w.heap.size 0 (.slice (some ⟨w3.heap.size, 0, none⟩) 4 4) hsz3] at E
      have c2 : ((w3.setCell ⟨w.heap.size, 0, none⟩ (.slice (some ⟨w3.heap.size, 0, none⟩) 4 4)).alloc (.cells #[.int .i64 2, .int .i64 2, .int .i64 2, .int .i64 2] 3)).cell? ⟨w.heap.size, 0, none⟩ = some (.slice (some ⟨w3.heap.size, 0, none⟩) 4 4) := (World.cell?_alloc_past _ _ _ (by simpa using hsz3)).trans (World.cell?_setCell_same _ _ _ c1)
      go_wp2
      refine bodyPost_ret (v := .agg #[.slice (some ⟨w3.heap.size, 0, none⟩) 4 4]) (by simp [results, Tryz.results49, go_sem, c2]) rfl ?_
      exact ⟨_, [2, 2, 2, 2], rfl, E.out.1, by decide, E.out.2.1, E.out.2.2⟩
    · have e1 : (x == 1) = false := by simpa using h1
      by_cases h2 : x = 2
      · subst h2
        have E := Lib.hid (group_end hCw HCU.out hC3 HW3.out hsz3 (World.grownBy_alloc w3 (.cells #[.int .i64 5, .int .i64 5] 3) none) (World.ownsRow_lit w3 #[.int .i64 5, .int .i64 5] 2 (Nat.le_refl _) (by decide) rfl))
        have c1' : (w3.alloc (.cells #[.int .i64 5, .int .i64 5] 3)).cell? ⟨w.heap.size, 0, none⟩ = some (.slice none 0 0) := (World.cell?_alloc_past _ _ _ hsz3).trans c1
        have f1' : (w3.alloc (.cells #[.int .i64 5, .int .i64 5] 3)).frozen? ⟨w.heap.size, 0, none⟩ = false := (frozen?_alloc_cells _ _ _ _).trans f1
        rw [World.setCell_alloc_past (.cells #[.int .i64 5, .int .i64 5] 3) w.heap.size 0 (.slice (some ⟨w3.heap.size, 0, none⟩) 2 2) hsz3] at E
        have c2 : ((w3.setCell ⟨w.heap.size, 0, none⟩ (.slice (some ⟨w3.heap.size, 0, none⟩) 2 2)).alloc (.cells #[.int .i64 5, .int .i64 5] 3)).cell? ⟨w.heap.size, 0, none⟩ = some (.slice (some ⟨w3.heap.size, 0, none⟩) 2 2) := (World.cell?_alloc_past _ _ _ (by simpa using hsz3)).trans (World.cell?_setCell_same _ _ _ c1)
        go_wp2
        refine bodyPost_ret (v := .agg #[.slice (some ⟨w3.heap.size, 0, none⟩) 2 2]) (by simp [results, Tryz.results49, go_sem, c2]) rfl ?_
        exact ⟨_, [5, 5], rfl, E.out.1, by decide, E.out.2.1, E.out.2.2⟩
      · have e2 : (x == 2) = false := by simpa using h2
        have E := Lib.hid (group_end2 hCw HCU.out hC3 HW3.out (Nat.lt_succ_self _) ⟨rfl, rfl, rfl, Nat.le_refl _, fun _ _ _ => rfl⟩ HO3.out)
        have c2 := World.cell?_setCell_same w3 ⟨w.heap.size, 0, none⟩ (.slice ao n' cap') c1
        go_wp2
        refine bodyPost_ret (v := .agg #[.slice ao n' cap']) (by simp [results, Tryz.results49, go_sem, c2]) rfl ?_
        exact ⟨_, l, rfl, E.out.1, by omega, E.out.2.1, E.out.2.2⟩
end Go.Proofs.YtfkleihnafeoeaaGreatDoor

namespace Go.Proofs.YtfkleihnafeoeaaGreatDoor
open Go.RowKit
set_option maxRecDepth 1000000
theorem once_any (w : World) (C : Nat) (a : Option Addr) (len cap : Nat) (n : Int) (hlen : len ≤ 1048576) (hc : CurAt w C a len cap) (hd : DataAt w C a len) (h0 : 0 < n) (h1 : n ≤ 256) :
    Calls Tryz.prog 79 #[.pointer (some ⟨C, 0, none⟩), .int .i64 n] w fun e w' => ∃ b : Bool, e = .returned (.bool b) ∧ CurAt w' C a len cap ∧ w.grownBy w' (some C) := by
  have HB := Lib.hid (below_small w C a len cap n hlen hc hd h0 h1)
  clear hc hd
  go_enter Tryz.func79, Tryz.ntmps79
  go_wp2_with (go_at_call 76; refine HB.out.mono ?_; rintro e w1 ⟨x, rfl, hx0, hx1, hcur, hg⟩; have HC := Lib.hid hcur; have HG := Lib.hid hg; clear hcur hg)
  go_ret
  exact ⟨_, rfl, HC.out, HG.out⟩
theorem ordN_le (l : List Int) : ordN l ≤ 24 := by
  by_cases h : grpB l = true
  · rw [ordN_grp h]; exact (grpB_true h).2.2
  · rw [ordN_no (by simpa using h)]; omega
end Go.Proofs.YtfkleihnafeoeaaGreatDoor

namespace Go.Proofs.YtfkleihnafeoeaaGreatDoor
open Go.RowKit
set_option maxRecDepth 1000000
theorem ints_grownAny {w w' : World} {b : Option Addr} {l : List Int} {row : Option Nat} (h : Ints w b l) (hg : w.grownBy w' row) (hne : ∀ x, b = some x → some x.block ≠ row) : Ints w' b l := by
  rcases h with h | ⟨b', off, ha, hlt, hc⟩
  · exact .inl h
  · exact .inr ⟨b', off, ha, Nat.lt_of_lt_of_le hlt hg.size, fun i hi => hg.cell (hc i hi) (by simpa using hne _ ha)⟩
theorem el_fit (i : Nat) (h : i < 3) : ∃ z : Int, -9223372036854775808 ≤ z ∧ z ≤ 9223372036854775807 ∧ (#[.int .i64 (-1), .int .i64 24, .int .i64 9223372036854775807] : Array Value)[i]? = some (.int .i64 z) := by
  match i, h with
  | 0, _ => exact ⟨-1, by decide, by decide, rfl⟩
  | 1, _ => exact ⟨24, by decide, by decide, rfl⟩
  | 2, _ => exact ⟨9223372036854775807, by decide, by decide, rfl⟩
set_option maxHeartbeats 4000000 in
theorem l2Element_any (w : World) (C : Nat) (a : Option Addr) (len cap : Nat) (l : List Int) (b : Option Addr) (n cp : Nat) (hn : n = l.length) (hm : n ≤ 9223372036854775807) (hi : Ints w b l) (hib : ∀ x, b = some x → x.block ≠ C) (hlen : len ≤ 1048576) (hc : CurAt w C a len cap) (hd : DataAt w C a len) :
    Calls Tryz.prog 73 #[.pointer (some ⟨C, 0, none⟩), .agg #[.slice b n cp]] w (AnyInt w C a len cap) := by
  have HC := Lib.hid hc
  have HD := Lib.hid hd
  have HI := Lib.hid hi
  have HIB := Lib.hid hib
  have HN := Lib.hid hn
  have hCw : C < w.heap.size := hc.lt
  have HG0 := Lib.hid (World.grownBy_alloc w (.cells #[.slice b n cp] 26) (some C))
  have HF := Lib.hid (once_any (w.alloc (.cells #[.slice b n cp] 26)) C a len cap 16 hlen (hc.other (heap_alloc_old w _ hCw)) (hd.grown HG0.out) (by decide) (by decide))
  clear hc hd hi hib hn
  go_enter Tryz.func73, Tryz.ntmps73
  go_wp2_with (fail)
  refine HF.out.mono ?_
  rintro e w1 ⟨c, rfl, hcur, hg⟩
  have HCU := Lib.hid hcur
  have HG1 := Lib.hid (grownC_trans HG0.out hg)
  have hgs : w.heap.size + 1 ≤ w1.heap.size := by simpa using hg.size
  have cg : w1.cell? ⟨w.heap.size, 0, none⟩ = some (.slice b n cp) := hg.cell (newC w _ _ rfl) (by simp; omega)
  clear hcur hg HF
  cases c
  · have HI1 := Lib.hid (ints_grownAny HI.out HG1.out (fun x e => by have := HIB.out x e; simpa using this))
    have HOR := Lib.hid (sOrderOf w1 b l n cp HN.out hm HI1.out)
    have HL := Lib.hid (ordN_le l)
    generalize ordN l = N at *
    have hN := HL.out
    go_wp2_with (go_at_call 59; refine HOR.out.mono ?_; rintro e w2 ⟨rfl, hb2⟩)
    all_goals
      have HG2 := Lib.hid (below_grown hb2 (row := some C))
      refine (below_small w2 C a len cap _ hlen (HCU.out.other (hb2.block C HCU.out.lt)) (HD.out.grown (grownC_trans HG1.out HG2.out)) (by omega) (by omega)).mono ?_
      rintro e w3 ⟨x, rfl, hx0, hx1, hcur, hg⟩
      have HC3 := Lib.hid hcur
      have HG3 := Lib.hid (grownC_trans (grownC_trans HG1.out HG2.out) hg)
      clear hcur hg hb2
      go_wp2
      go_ret
      exact ⟨_, rfl, by omega, by omega, HC3.out, HG3.out⟩
  · go_wp2_with (fail)
    refine (pick_any _ C a len cap w1.heap.size 3 3 hlen ?h1 ?h2 (by omega) (by omega) ?h3 ?h4).mono ?_
    case h1 => exact HCU.out.other (heap_alloc_old w1 _ HCU.out.lt)
    case h2 => exact (HD.out.grown HG1.out).grown (World.grownBy_alloc w1 _ _)
    case h3 => omega
    case h4 =>
      intro i hi
      obtain ⟨z, hz0, hz1, hz⟩ := el_fit i hi
      exact ⟨z, hz0, hz1, (World.cell?_alloc_at _ _ _ _ rfl).trans hz⟩
    rintro e w2 ⟨x, rfl, hx0, hx1, hcur, hg⟩
    have HC2 := Lib.hid hcur
    have HG2 := Lib.hid (grownC_trans (grownC_trans HG1.out (World.grownBy_alloc w1 _ _)) hg)
    clear hcur hg
    go_wp2
    go_ret
    exact ⟨_, rfl, hx0, hx1, HC2.out, HG2.out⟩
end Go.Proofs.YtfkleihnafeoeaaGreatDoor

namespace Go.Proofs.YtfkleihnafeoeaaGreatDoor
open Go.RowKit
set_option maxRecDepth 1000000
theorem pow_fit {k : Nat} (h : k ≤ 24) : ∃ P : Int, wrap64 ((2 : Int) ^ k) = P ∧ 1 ≤ P ∧ P ≤ 16777216 := by
  have h1 := pow_le24 h
  have h2 : 1 ≤ 2 ^ k := Nat.one_le_two_pow
  exact ⟨_, wrap_pow h, by omega, by omega⟩
set_option maxHeartbeats 4000000 in
theorem l3Set_any (w : World) (C : Nat) (a : Option Addr) (len cap : Nat) (l : List Int) (b : Option Addr) (n cp : Nat) (hn : n = l.length) (hm : n ≤ 9223372036854775807) (hi : Ints w b l) (hlen : len ≤ 1048576) (hc : CurAt w C a len cap) (hd : DataAt w C a len) :
    Calls Tryz.prog 74 #[.pointer (some ⟨C, 0, none⟩), .agg #[.slice b n cp]] w (AnyInt w C a len cap) := by
  have HC := Lib.hid hc
  have HD := Lib.hid hd
  have HN := Lib.hid hn
  have hCw : C < w.heap.size := hc.lt
  have HI := Lib.hid (ints_alloc hi (.cells #[.slice b n cp] 26))
  have HG0 := Lib.hid (World.grownBy_alloc w (.cells #[.slice b n cp] 26) (some C))
  have HCA := Lib.hid (HC.out.other (heap_alloc_old w (.cells #[.slice b n cp] 26) hCw))
  have C1 := newC w (.slice b n cp) 26 (n := w.heap.size) rfl
  have HOR := Lib.hid (sOrderOf _ b l n cp HN.out hm HI.out)
  have HL := Lib.hid (ordN_le l)
  clear hc hd hi hn
  obtain ⟨N, HNN⟩ : ∃ N, Hid (ordN l = N) := ⟨_, Lib.hid rfl⟩
  rw [HNN.out] at HOR HL
  have hN := HL.out
  go_enter Tryz.func74, Tryz.ntmps74
  go_wp2_with (go_at_call 59; refine HOR.out.mono ?_; rintro e w2 ⟨rfl, hb2⟩)
  all_goals
    have HG2 := Lib.hid (grownC_trans HG0.out (below_grown hb2 (row := some C)))
    have hC1 : C < (w.alloc (.cells #[.slice b n cp] 26)).heap.size := by simp; omega
    obtain ⟨M, HM⟩ : ∃ M : Int, Hid (max 1 N = M) := ⟨_, Lib.hid rfl⟩
    have hM1 : 1 ≤ M := by have := HM.out; omega
    have hM2 : M ≤ 24 := by have := HM.out; omega
    first | rw [HM.out] | rw [show N = M from by have := HM.out; omega] | rw [show (1 : Int) = M from by have := HM.out; omega]
    refine (below_small w2 C a len cap 6 hlen (HCA.out.other (hb2.block C hC1)) (HD.out.grown HG2.out) (by omega) (by omega)).mono ?_
    rintro e w3 ⟨x, rfl, hx0, hx1, hcur, hg⟩
    have HC3 := Lib.hid hcur
    have HG3 := Lib.hid (grownC_trans HG2.out hg)
    clear hcur hg hb2 HCA HOR
    go_wp2
    go_loopw [6, 7] (fun aa kk wr => ∃ (A : Nat) (k : Int), aa = .int .i64 (A : Nat) ∧ kk = .int .i64 k ∧ 0 ≤ k ∧ k ≤ 5 ∧ Hid (A < 16777216) ∧ CurAt wr C a len cap ∧ w.grownBy wr (some C)) (fun _ kk _ => (intOf kk).toNat)
    case atStart => exact ⟨0, x, rfl, rfl, hx0, by omega, Lib.hid (by decide), HC3.out, HG3.out⟩
    case round =>
      obtain ⟨A, k, rfl, rfl, hk0, hk5, HA, hcur, hg⟩ := hrel
      have HCr := Lib.hid hcur
      have HGr := Lib.hid hg
      clear hcur hg
      by_cases hk : 0 < k
      · go_wp2_with (fail)
        refine (below_small _ C a len cap M hlen HCr.out (HD.out.grown HGr.out) (by omega) (by omega)).mono ?_
        rintro e w5 ⟨y, rfl, hy0, hy1, hcur, hg⟩
        have HC5 := Lib.hid hcur
        have HG5 := Lib.hid (grownC_trans HGr.out hg)
        clear hcur hg
        have HOS := Lib.hid (or_step HA.out hy0 (by omega))
        have HA2 : Hid (A ||| 2 ^ y.toNat < 16777216) := Lib.hid (Nat.or_lt_two_pow (n := 24) HA.out (Nat.pow_lt_pow_right (by decide) (by omega)))
        go_wp2
        go_roundw
        case rel => exact ⟨A ||| 2 ^ y.toNat, k - 1, by rw [HOS.out], rfl, by omega, by omega, HA2, HC5.out, HG5.out⟩
        case measure => simp [intOf]; omega
      · go_wp2_with (fail)
        refine (below_small _ C a len cap 20 hlen HCr.out (HD.out.grown HGr.out) (by omega) (by omega)).mono ?_
        rintro e w5 ⟨y, rfl, hy0, hy1, hcur, hg⟩
        have HC5 := Lib.hid hcur
        have HG5 := Lib.hid (grownC_trans HGr.out hg)
        clear hcur hg
        by_cases h0 : y = 0
        · have e0 : (y == 0) = true := by simp [h0]
          obtain ⟨P, HP, hP1, hP2⟩ := pow_fit (k := M.toNat) (by omega)
          clear h0
          go_wp2
          go_ret
          exact ⟨_, rfl, by first | omega | (rw [HP]; omega), by first | omega | (rw [HP]; omega), HC5.out, HG5.out⟩
        · have e0 : (y == 0) = false := by simpa using h0
          by_cases h1 : y = 1
          · have e1 : (y == 1) = true := by simp [h1]
            clear h0 h1
            go_wp2_with (fail)
            refine (pick_any _ C a len cap w5.heap.size 3 3 hlen ?h1 ?h2 (by omega) (by omega) ?h3 ?h4).mono ?_
            case h1 => exact HC5.out.other (heap_alloc_old w5 _ HC5.out.lt)
            case h2 => exact (HD.out.grown HG5.out).grown (World.grownBy_alloc w5 _ _)
            case h3 => have := HC5.out.lt; omega
            case h4 =>
              intro i hi
              have : ∃ z : Int, -9223372036854775808 ≤ z ∧ z ≤ 9223372036854775807 ∧ (#[.int .i64 (-1), .int .i64 16777216, .int .i64 9223372036854775807] : Array Value)[i]? = some (.int .i64 z) := by
                match i, hi with
                | 0, _ => exact ⟨-1, by decide, by decide, rfl⟩
                | 1, _ => exact ⟨16777216, by decide, by decide, rfl⟩
                | 2, _ => exact ⟨9223372036854775807, by decide, by decide, rfl⟩
              obtain ⟨z, hz0, hz1, hz⟩ := this
              exact ⟨z, hz0, hz1, (World.cell?_alloc_at _ _ _ _ rfl).trans hz⟩
            rintro e w6 ⟨z, rfl, hz0, hz1, hcur, hg⟩
            have HC6 := Lib.hid hcur
            have HG6 := Lib.hid (grownC_trans (grownC_trans HG5.out (World.grownBy_alloc w5 _ _)) hg)
            clear hcur hg
            go_wp2
            go_ret
            exact ⟨_, rfl, hz0, hz1, HC6.out, HG6.out⟩
          · have e1 : (y == 1) = false := by simpa using h1
            clear h0 h1
            go_wp2
            go_ret
            exact ⟨_, rfl, by omega, by have := HA.out; omega, HC5.out, HG5.out⟩
end Go.Proofs.YtfkleihnafeoeaaGreatDoor

namespace Go.Proofs.YtfkleihnafeoeaaGreatDoor
open Go.RowKit
set_option maxRecDepth 1000000
abbrev nilG : Obj := .cells #[.slice none 0 0] 26
theorem below_newset {a w : World} {B : Nat} (h : Below B a w) {b : Nat} (hb : B ≤ b) (v : Value) : Below B a (w.setCell ⟨b, 0, none⟩ v) :=
  ⟨h.os, h.tape, h.output, by simpa using h.size, fun k hk => (heap_setCell_other w ⟨b, 0, none⟩ k v (fun e => by simp at e; omega)).trans (h.block k hk)⟩
/-- The result's variable in block w.heap.size, the cursor in the next one, the drawn group's row above. -/
structure MidG (w w3 : World) (a : Option Addr) (len cap : Nat) (au : Option Addr) (cu : Nat) (l : List Int) : Prop where
  cur : CurAt w3 (w.heap.size + 1) a len cap
  dat : DataAt w3 (w.heap.size + 1) a len
  res : w3.heap[w.heap.size]? = some (.cells #[.slice none 0 0] 26 (0, 0))
  own : w3.ownsRow (w.heap.size + 2) 3 1 (.slice au l.length cu) l.length (l.map (Value.int .i64))
  few : l.length ≤ 4
  bel : Below w.heap.size w w3
  lt : w.heap.size + 2 ≤ w3.heap.size
theorem MidG.grown {w w3 w4 : World} {a : Option Addr} {len cap : Nat} {au : Option Addr} {cu : Nat} {l : List Int} (m : MidG w w3 a len cap au cu l) (hc : CurAt w4 (w.heap.size + 1) a len cap) (hg : w3.grownBy w4 (some (w.heap.size + 1))) : MidG w w4 a len cap au cu l :=
  have hlt := m.lt
  ⟨hc, m.dat.grown hg, (hg.block _ (by omega) (by simp)).trans m.res, m.own.kept hg (.inr fun e => by have := (m.own.lt _ e).1; omega), m.few, m.bel.grown hg (by omega) (fun k hk => by cases hk; omega), Nat.le_trans m.lt hg.size⟩
theorem MidG.below {w w3 w4 : World} {a : Option Addr} {len cap : Nat} {au : Option Addr} {cu : Nat} {l : List Int} (m : MidG w w3 a len cap au cu l) (hb : Below w3.heap.size w3 w4) : MidG w w4 a len cap au cu l :=
  m.grown (m.cur.other (hb.block _ (by have := m.lt; omega))) (below_grown hb _)
theorem MidG.drew {w w3 : World} {a : Option Addr} {len cap : Nat} {au : Option Addr} {cu : Nat} {l : List Int} (m : MidG w w3 a len cap au cu l) : MidG w w3.drew a len cap au cu l :=
  m.grown m.cur ⟨rfl, rfl, rfl, Nat.le_refl _, fun _ _ _ => rfl⟩
theorem MidG.alloc {w w3 : World} {a : Option Addr} {len cap : Nat} {au : Option Addr} {cu : Nat} {l : List Int} (m : MidG w w3 a len cap au cu l) (c : Array Value) (t : TypeId) : MidG w (w3.alloc (.cells c t)) a len cap au cu l :=
  m.below (Joins.below_alloc1 _ _)
theorem MidG.ints {w w3 : World} {a : Option Addr} {len cap : Nat} {au : Option Addr} {cu : Nat} {l : List Int} (m : MidG w w3 a len cap au cu l) : Ints w3 au l := own_ints' rfl m.own
theorem MidG.apart {w w3 : World} {a : Option Addr} {len cap : Nat} {au : Option Addr} {cu : Nat} {l : List Int} (m : MidG w w3 a len cap au cu l) : ∀ x, au = some x → x.block ≠ w.heap.size + 1 := fun x e h => by
  subst e
  have := (m.own.lt x.block (by simp [Value.ownBlock])).1
  omega
theorem MidG.cells {w w3 : World} {a : Option Addr} {len cap : Nat} {au : Option Addr} {cu : Nat} {l : List Int} (m : MidG w w3 a len cap au cu l) : w3.cell? ⟨w.heap.size, 0, none⟩ = some (.slice none 0 0) ∧ w3.frozen? ⟨w.heap.size, 0, none⟩ = false := one_cell m.res
theorem MidG.finish {w w3 : World} {a : Option Addr} {len cap : Nat} {au : Option Addr} {cu : Nat} {l : List Int} (m : MidG w w3 a len cap au cu l) :
    (w3.setCell ⟨w.heap.size, 0, none⟩ (.slice au l.length cu)).ownsRow w.heap.size 3 1 (.slice au l.length cu) l.length (l.map (Value.int .i64)) ∧ Below w.heap.size w (w3.setCell ⟨w.heap.size, 0, none⟩ (.slice au l.length cu)) :=
  ⟨ownsRow_lower (ownsRow_setCell_below (a := ⟨w.heap.size, 0, none⟩) m.own (by show w.heap.size < _; omega) _) (by omega), below_newset m.bel (Nat.le_refl _) _⟩
/-- The cursor made, behind the result's variable. -/
theorem new_at (w : World) (a : Option Addr) (len cap : Nat) (hlen : len ≤ 1048576) (hd : CodeIn w a len) :
    Calls Tryz.prog 50 #[.slice a len cap] (w.alloc nilG) fun e w1 => e = .returned (.pointer (some ⟨w.heap.size + 1, 0, none⟩)) ∧ CurAt w1 (w.heap.size + 1) a len cap ∧ DataAt w1 (w.heap.size + 1) a len ∧ Below (w.heap.size + 1) (w.alloc nilG) w1 := by
  have h := new_any (w.alloc nilG) a len cap hlen (hd.below (Joins.below_alloc1 w nilG))
  have e : (w.alloc nilG).heap.size = w.heap.size + 1 := by simp
  unfold NewCur at h
  rw [e] at h
  exact h
/-- A group drawn with the new cursor. -/
theorem mid_of {w w1 w2 : World} {a : Option Addr} {len cap : Nat} {u : Value} {l : List Int} (hd : DataAt w1 (w.heap.size + 1) a len) (hb : Below (w.heap.size + 1) (w.alloc nilG) w1) (hc1 : CurAt w1 (w.heap.size + 1) a len cap)
    (ho : w2.ownsRow w1.heap.size 3 1 u l.length (l.map (Value.int .i64))) (hl : l.length ≤ 4) (hc : CurAt w2 (w.heap.size + 1) a len cap) (hg : w1.grownBy w2 (some (w.heap.size + 1))) :
    ∃ au cu, u = .slice au l.length cu ∧ MidG w w2 a len cap au cu l := by
  obtain ⟨au, cu, rfl⟩ := own_slice' rfl ho
  have h1 := hc1.lt
  have h2 := hg.size
  have hb0 : Below w.heap.size w w1 := (Joins.below_alloc1 w nilG).trans (hb.mono (by omega))
  refine ⟨au, cu, rfl, hc, hd.grown hg, ?_, ownsRow_lower ho (by omega), hl, hb0.grown hg (by omega) (fun k hk => by cases hk; omega), by omega⟩
  rw [hg.block _ (by omega) (by simp), hb.block _ (by omega)]
  exact heap_alloc_new w nilG
end Go.Proofs.YtfkleihnafeoeaaGreatDoor

namespace Go.Proofs.YtfkleihnafeoeaaGreatDoor
open Go.RowKit Go.Shelf
attribute [local go_sem] Oper.semAt_some
set_option maxRecDepth 1000000
def tabZ : List Int := Lib.deBruijn64tab.map fun (n : Nat) => (n : Int)
/-- The library's table reads as it is laid, whatever is done from block B on. -/
def TabZ (B : Nat) (w : World) : Prop := Lib.TabBelow Tryz.prog B w "math/bits.deBruijn64tab" .u8 tabZ
theorem TabZ.on {B : Nat} {w w1 : World} (h : TabZ B w) (hb : Below B w w1) : TabZ B w1 := Lib.TabBelow.on h hb
theorem TabZ.at {B : Nat} {w : World} (h : TabZ B w) (j : Nat) (hj : j < 64) : w.cell? ⟨2, j, none⟩ = some (.int .u8 ((Lib.deBruijn64tab.getD j 0 : Nat) : Int)) := by
  have h1 := Lib.TabIs.cell (g := 2) (Lib.TabBelow.here h) (by kernel_rfl) j (by unfold tabZ; rw [List.length_map]; exact hj)
  have hl : j < Lib.deBruijn64tab.length := hj
  simpa [tabZ, List.getD, List.getElem?_eq_getElem hl] using h1
theorem iTz64 (w : World) (x : Nat) (hx : x < 16777216) (h0 : x ≠ 0) (B : Nat) (ht : TabZ B w) :
    Calls Tryz.prog 87 #[.int .u64 x] w fun e w' => e = .returned (.int .i64 (Lib.ctz 64 x : Nat)) ∧ w = w' := by
  have hx64 : x < 18446744073709551616 := Nat.lt_trans hx (by decide)
  obtain ⟨hlow, hk⟩ := Lib.lowest_bit 64 x h0 hx64
  obtain ⟨hi, htab⟩ := Lib.deBruijn64_at _ hk
  have hcell := ht.at _ hi
  rw [htab] at hcell
  have key := tz64_key x _ hx64 h0 hlow
  have hx0 : ((x : Int) == 0) = false := by simp; omega
  obtain ⟨k, hkk⟩ : ∃ k, Lib.ctz 64 x = k := ⟨_, rfl⟩
  rw [hkk] at hcell hk
  rw [hkk]
  obtain ⟨idx, hidx⟩ : ∃ i, 2 ^ Lib.ctz 64 x * 285870213051353865 % 18446744073709551616 / 288230376151711744 = i := ⟨_, rfl⟩
  rw [hidx] at key hi
  rw [hkk] at hidx
  rw [hidx] at hcell
  clear htab hlow hkk hidx h0 ht
  go_enter Tryz.func87, Tryz.ntmps87
  go_wp2_with (simp only [key])
  go_ret
  exact ⟨rfl, rfl⟩
theorem iTz (w : World) (x : Nat) (hx : x < 16777216) (h0 : x ≠ 0) (B : Nat) (ht : TabZ B w) :
    Calls Tryz.prog 72 #[.int .u64 x] w fun e w' => e = .returned (.int .i64 (Lib.ctz 64 x : Nat)) ∧ w = w' := by
  have HX := Lib.hid hx
  have H0 := Lib.hid h0
  have HT := Lib.hid ht
  clear ht h0
  go_enter Tryz.func72, Tryz.ntmps72
  go_wp2_with (go_at_call 87; refine (iTz64 _ x HX.out H0.out B HT.out).mono ?_; rintro e w1 ⟨rfl, rfl⟩)
  go_ret
  exact ⟨rfl, rfl⟩
theorem iLeast (w : World) (x : Nat) (hx : x < 16777216) (h0 : x ≠ 0) (B : Nat) (ht : TabZ B w) :
    Calls Tryz.prog 46 #[.int .u64 x] w fun e w' => e = .returned (.int .i64 (Lib.ctz 64 x : Nat)) ∧ w = w' := by
  have HX := Lib.hid hx
  have H0 := Lib.hid h0
  have HT := Lib.hid ht
  clear ht h0
  go_enter Tryz.func46, Tryz.ntmps46
  go_wp2_with (go_at_call 72; refine (iTz _ x HX.out H0.out B HT.out).mono ?_; rintro e w1 ⟨rfl, rfl⟩)
  go_ret
  exact ⟨rfl, rfl⟩
set_option maxHeartbeats 1000000 in
theorem each_in (n : Nat) (s : Nat) (hs : s < 2 ^ 24) (B l : Nat) (J : List Nat → World → Prop) (hT : ∀ pre W, J pre W → TabZ B W)
    (hY : ∀ pre x W, J pre W → x < 24 → s.testBit x = true → pre.length < 24 → YieldAt Fence.wide (n - 1) Tryz.prog l #[.int .i64 (x : Nat)] W fun e W' => e = .returned (.bool true) ∧ J (pre ++ [x]) W')
    (W : World) (h0 : J [] W) :
    CallsIn Fence.wide n Tryz.prog 64 #[.int .u64 s, .func (.yield l) #[] #[]] W fun e W' => (∃ v, e = .returned v) ∧ J (bitsN s) W' := by
  have HS := Lib.hid hs
  have HY := Lib.hid hY
  have HTB := Lib.hid hT
  clear hs hY hT
  refine callsIn_of_wp Tryz.func64 rfl trivial ?_ rfl
  simp only [Tryz.ntmps64, List.size_toArray, List.length_cons, List.length_nil, Nat.reduceAdd, Nat.reduceSub, Array.replicate_succ, Array.replicate_zero, List.push_toArray, List.append_toArray, List.nil_append, List.cons_append]
  gi_wp2
  gi_loopw [4] (fun r wr => ∃ k R : Nat, k ≤ 24 ∧ r = .int .u64 (R : Nat) ∧ Hid (restK s k = R) ∧ J (upK s k) wr) (fun r _ => (intOf r).toNat)
  case atStart => exact ⟨0, s, by omega, rfl, Lib.hid (restK_zero s), h0⟩
  case round =>
    obtain ⟨k, R, hk, rfl, HR, hJ⟩ := hrel
    by_cases hz : R = 0
    · have HE := Lib.hid (restK_end (a := s) (k := k) (by rw [HR.out, hz]) hk)
      subst hz
      have hn0 : ((((0 : Nat) : Int)) == 0) = true := rfl
      gi_wp2
      go_end0
      exact ⟨⟨_, rfl⟩, by rw [← HE.out]; exact hJ⟩
    · obtain ⟨t, ht, hkt, ht24, hu, hand, hlt⟩ := rest_step (a := s) (k := k) HS.out (by rw [HR.out]; exact hz)
      rw [HR.out] at ht hand hlt
      have hRlt : R < 16777216 := by
        rw [← HR.out]; exact Nat.lt_of_le_of_lt (restK_le s k) HS.out
      have H1 := Lib.hid hRlt
      have H2 := Lib.hid hz
      have hne : ((R : Int) == 0) = false := by simp; omega
      obtain ⟨R2, HR2⟩ : ∃ R2, Hid (restK s (t + 1) = R2) := ⟨_, Lib.hid rfl⟩
      rw [HR2.out] at hand hlt
      have HBB : Hid (bits .and .u64 (R : Int) (IntKind.u64.wrap ((R : Int) - 1)) = (R2 : Int)) := Lib.hid (by
        rw [← hand, ← bits_and_u64_nat R (R - 1) (by omega) (by omega), IntKind.wrap_u64]
        congr 1; omega)
      have HTT := Lib.hid ht
      have HU := Lib.hid hu
      have HLT := Lib.hid hlt
      have HT24 := Lib.hid ht24
      have HJ := Lib.hid hJ
      obtain ⟨fn, tmps, assign, body, hy, hR⟩ := HY.out (upK s k) t wr hJ ht24 (upK_mem (k := t + 1) (by rw [hu]; simp)).2 (Nat.lt_of_le_of_lt (upK_len s k) (by omega))
      clear ht hu hlt hand hz hJ
      gi_wp2
      refine ⟨trivial, fun h => (by simp [Fence.wide] at h), ?_⟩
      refine (callsIn_wide.2 (iLeast _ R H1.out H2.out B (HTB.out _ _ HJ.out))).mono ?_
      rw [HTT.out]
      rintro e w3 ⟨rfl, rfl⟩
      gi_wp2
      refine ⟨fun h => (by simp [Fence.wide] at h), hR.mono ?_⟩
      rintro e W3 ⟨rfl, hJ3⟩
      gi_wp2
      go_roundw
      case rel => exact ⟨t + 1, R2, by omega, by rw [HBB.out], HR2, by rw [HU.out]; exact hJ3⟩
      case measure => rw [HBB.out]; have := HLT.out; simp [intOf]; omega
end Go.Proofs.YtfkleihnafeoeaaGreatDoor

namespace Go.Proofs.YtfkleihnafeoeaaGreatDoor
open Go.RowKit
set_option maxRecDepth 1000000
/-- W keeps all that stood in W0. -/
def On (W0 W : World) : Prop := Below W0.heap.size W0 W
theorem On.step {W0 W W' : World} (o : On W0 W) (h : Below W.heap.size W W') : On W0 W' := Below.trans o (h.mono (Below.size o))
theorem On.drew {W0 W : World} (o : On W0 W) : On W0 W.drew := Below.drew o
theorem On.ints {W0 W : World} {a : Option Addr} {l : List Int} (o : On W0 W) (h : Ints W0 a l) : Ints W a l := h.below rfl o
theorem On.cell {W0 W : World} {p : Addr} {v : Value} (o : On W0 W) (h : W0.cell? p = some v) : W.cell? p = some v := keepC o (World.block_lt_of_cell? W0 _ h) h
theorem On.tab {W0 W : World} {B : Nat} (o : On W0 W) (hB : B ≤ W0.heap.size) (h : TabZ B W0) : TabZ B W := h.on (Below.mono o hB)
/-- What stands when a group has been drawn and laid into its variable. -/
theorem laid_of {w w0 w1 : World} {au : Option Addr} {cu B : Nat} {l : List Int} (hw : Below B w w0) (hB : B ≤ w0.heap.size) (ho : w1.ownsRow w0.heap.size 3 1 (.slice au l.length cu) l.length (l.map (Value.int .i64))) (hb : Below w0.heap.size w0 w1) :
    Below B w (w1.alloc (.cells #[.slice au l.length cu] 26)) ∧ Ints (w1.alloc (.cells #[.slice au l.length cu] 26)) au l ∧ (w1.alloc (.cells #[.slice au l.length cu] 26)).cell? ⟨w1.heap.size, 0, none⟩ = some (.slice au l.length cu) ∧ B ≤ (w1.alloc (.cells #[.slice au l.length cu] 26)).heap.size := by
  have h1 := hb.size
  refine ⟨(hw.trans (hb.mono hB)).trans ((Joins.below_alloc1 w1 _).mono (by omega)), own_ints' rfl (ho.alloc _), newC w1 _ _ rfl, by simp; omega⟩
theorem CodeIn.keep {w w' : World} {a : Option Addr} {len : Nat} (h : CodeIn w a len) (hb : Below w.heap.size w w') : CodeIn w' a len := h.below hb
end Go.Proofs.YtfkleihnafeoeaaGreatDoor

namespace Go.Proofs.YtfkleihnafeoeaaGreatDoor
open Go.RowKit
set_option maxRecDepth 1000000
set_option maxHeartbeats 4000000 in
theorem sPrg (w : World) (a : Option Addr) (l : List Int) (n cap : Nat) (x d m : Nat) (hx : x < (prodI l).toNat) (hd : d < (prodI l).toNat) (hm : m ≤ 24) (hn : n = l.length) (hg : grpB l = true) (hi : Ints w a l) :
    Calls Tryz.prog 42 #[.agg #[.slice a n cap], .int .i64 x, .int .i64 d, .int .i64 m] w fun e w' => e = .returned (.int .i64 (prgN l x d m : Nat)) ∧ Below w.heap.size w w' := by
  have HI := Lib.hid (ints_alloc hi (.cells #[.slice a n cap] 26))
  have HN := Lib.hid hn
  have C1 := newC w (.slice a n cap) 26 (n := w.heap.size) rfl
  have HB := Lib.hid (Joins.below_alloc1 w (.cells #[.slice a n cap] 26))
  have T0 := Lib.hid (Below.refl (w.alloc (.cells #[.slice a n cap] 26)).heap.size (w.alloc (.cells #[.slice a n cap] 26)))
  clear hi hn
  have HG := Lib.hid hg
  have hp := (ords_grp hg).prod
  have hd23 : (d : Int) ≤ 23 := by omega
  have hd0 : (0 : Int) ≤ (d : Int) := by omega
  have HP1 := Lib.hid (fun k => show prgN l x d (k + 1) = prgN l x d k ||| 2 ^ stp (adN l) d x k from rfl)
  have HS1 := Lib.hid (fun k => show stp (adN l) d x (k + 1) = adN l (stp (adN l) d x k) d from rfl)
  have HPL := Lib.hid (fun k => grp_pow hg (prg_lt hg hx (d := d) k))
  have HSL : Hid (∀ k, stp (adN l) d x k ≤ 23) := Lib.hid (fun k => by have := stp_lt hg hx (d := d) k; omega)
  have HAD : Hid (∀ y : Nat, addN l (y : Int) (d : Int) = ((adN l y d : Nat) : Int)) := Lib.hid (fun y => by have := addN_in (ords_grp hg) (y : Int) (d : Int); unfold adN; omega)
  have HP0 : Hid (prgN l x d 0 = 0) := Lib.hid rfl
  have HS0 : Hid (stp (adN l) d x 0 = x) := Lib.hid rfl
  obtain ⟨R, hR⟩ : ∃ R, prgN l x d = R := ⟨_, rfl⟩
  obtain ⟨T, hT⟩ : ∃ T, stp (adN l) d x = T := ⟨_, rfl⟩
  rw [hR, hT] at HP1
  rw [hR] at HPL HP0
  rw [hT] at HS1 HSL HS0
  rw [hR]
  clear hR hT hp hg hx hd
  go_enter Tryz.func42, Tryz.ntmps42
  go_wp2
  go_loopw [9, 10, 11] (fun o y i wr => ∃ k : Nat, k ≤ m ∧ i = .int .i64 k ∧ o = .int .i64 (R k : Nat) ∧ y = .int .i64 (T k : Nat) ∧ Below (w.alloc (.cells #[.slice a n cap] 26)).heap.size (w.alloc (.cells #[.slice a n cap] 26)) wr) (fun _ _ i _ => m - (intOf i).toNat)
  case atStart => exact ⟨0, Nat.zero_le _, rfl, by rw [HP0.out]; rfl, by rw [HS0.out], T0.out⟩
  case round =>
    obtain ⟨k, hk, rfl, rfl, rfl, hbel⟩ := hrel
    have c4 := keepC hbel (by simp) C1
    have HIr := Lib.hid (HI.out.below rfl hbel)
    have HBL := Lib.hid hbel
    have hO := HPL.out k
    have hY := HSL.out k
    by_cases hlt : k < m
    · have h1 := HP1.out k
      have h2 := HS1.out k
      obtain ⟨O, hOO⟩ : ∃ O, R k = O := ⟨_, rfl⟩
      obtain ⟨Y, hYY⟩ : ∃ Y, T k = Y := ⟨_, rfl⟩
      rw [hOO, hYY] at h1
      rw [hYY] at h2 hY
      rw [hOO] at hO
      rw [hOO, hYY]
      have h3 := HAD.out Y
      obtain ⟨Z, hZ⟩ : ∃ Z, adN l Y d = Z := ⟨_, rfl⟩
      rw [hZ] at h2 h3
      have HA3 := Lib.hid h3
      have H1 := Lib.hid h1
      have H2 := Lib.hid h2
      have HOR := or_step (O := O) (V := (Y : Int)) hO (by omega) (by omega)
      rw [Int.toNat_natCast] at HOR
      have hy23 : (Y : Int) ≤ 23 := by omega
      have hy0 : (0 : Int) ≤ (Y : Int) := by omega
      clear h1 h2 h3 hOO hYY hZ hO hY hbel
      go_wp2_with (go_at_call 56; refine (sAdd _ _ l _ _ (Y : Int) (d : Int) hy0 hy23 hd0 hd23 HN.out HG.out HIr.out).mono ?_; rw [HA3.out]; rintro e w5 ⟨rfl, hb5⟩)
      go_roundw
      case rel => exact ⟨k + 1, by omega, by go_num, by rw [H1.out], by rw [H2.out], HBL.out.trans (hb5.mono HBL.out.size)⟩
      case measure => simp [intOf]; omega
    · obtain rfl : k = m := by omega
      clear hbel
      go_wp2
      go_ret
      exact ⟨rfl, HB.out.trans (HBL.out.mono (by simp))⟩
set_option maxHeartbeats 4000000 in
theorem sPrgE (w : World) (a : Option Addr) (l : List Int) (n cap : Nat) (x d m : Int) (hn : n = l.length) (hm : n ≤ 9223372036854775807) (hi : Ints w a l) :
    Calls Tryz.prog 23 #[.agg #[.slice a n cap], .int .i64 x, .int .i64 d, .int .i64 m] w fun e w' => e = .returned (.int .i64 (prgE l x d m)) ∧ Below w.heap.size w w' := by
  have HI := Lib.hid (ints_alloc hi (.cells #[.slice a n cap] 26))
  have HN := Lib.hid hn
  have C1 := newC w (.slice a n cap) 26 (n := w.heap.size) rfl
  have HB := Lib.hid (Joins.below_alloc1 w (.cells #[.slice a n cap] 26))
  have T0 := Lib.hid (Below.refl (w.alloc (.cells #[.slice a n cap] 26)).heap.size (w.alloc (.cells #[.slice a n cap] 26)))
  clear hi hn
  cases h1 : isE l x with
  | false =>
    have H1 : Hid (false = (decide (0 ≤ x) && decide (x < ordN l))) := Lib.hid h1.symm
    rw [show prgE l x d m = -1 by unfold prgE; rw [h1]; rfl]
    clear h1
    go_enter Tryz.func23, Tryz.ntmps23
    go_wp2_with (go_at_call 44; refine (sIs _ _ l _ _ x _ H1.out HN.out hm (HI.out.below rfl T0.out)).mono ?_; rintro e w1 ⟨rfl, hb1⟩; have T1 := Lib.hid (T0.out.trans (hb1.mono T0.out.size)); have c1 := keepC T1.out (by simp) C1)
    go_ret
    exact ⟨rfl, HB.out.trans (T1.out.mono (by simp))⟩
  | true =>
    have H1 : Hid (true = (decide (0 ≤ x) && decide (x < ordN l))) := Lib.hid h1.symm
    cases h2 : isE l d with
    | false =>
      have H2 : Hid (false = (decide (0 ≤ d) && decide (d < ordN l))) := Lib.hid h2.symm
      rw [show prgE l x d m = -1 by unfold prgE; rw [h1, h2]; rfl]
      clear h1 h2
      go_enter Tryz.func23, Tryz.ntmps23
      go_wp2_with (first
        | (go_at_call 44; have hx_ := K1; clear hx_; refine (sIs _ _ l _ _ d _ H2.out HN.out hm (HI.out.below rfl T1.out)).mono ?_; rintro e w2 ⟨rfl, hb2⟩; have T2 := Lib.hid (T1.out.trans (hb2.mono T1.out.size)); have c2 := keepC T2.out (by simp) C1)
        | (go_at_call 44; refine (sIs _ _ l _ _ x _ H1.out HN.out hm (HI.out.below rfl T0.out)).mono ?_; rintro e w1 ⟨rfl, hb1⟩; have T1 := Lib.hid (T0.out.trans (hb1.mono T0.out.size)); have c1 := keepC T1.out (by simp) C1; have K1 := True.intro))
      go_ret
      exact ⟨rfl, HB.out.trans (T2.out.mono (by simp))⟩
    | true =>
      have H2 : Hid (true = (decide (0 ≤ d) && decide (d < ordN l))) := Lib.hid h2.symm
      cases h3 : (decide (0 ≤ m) && decide (m ≤ 24)) with
      | false =>
        have H3 : Hid (false = (decide (0 ≤ m) && decide (m ≤ 24))) := Lib.hid h3.symm
        rw [show prgE l x d m = -1 by unfold prgE; rw [h1, h2, h3]; rfl]
        clear h1 h2 h3
        go_enter Tryz.func23, Tryz.ntmps23
        go_wp2_with (first
          | (go_at_call 55; refine (sIn _ _ _ _ _ H3.out).mono ?_; rintro e w3 ⟨rfl, rfl⟩)
          | (go_at_call 44; have hx_ := K1; clear hx_; refine (sIs _ _ l _ _ d _ H2.out HN.out hm (HI.out.below rfl T1.out)).mono ?_; rintro e w2 ⟨rfl, hb2⟩; have T2 := Lib.hid (T1.out.trans (hb2.mono T1.out.size)); have c2 := keepC T2.out (by simp) C1)
          | (go_at_call 44; refine (sIs _ _ l _ _ x _ H1.out HN.out hm (HI.out.below rfl T0.out)).mono ?_; rintro e w1 ⟨rfl, hb1⟩; have T1 := Lib.hid (T0.out.trans (hb1.mono T0.out.size)); have c1 := keepC T1.out (by simp) C1; have K1 := True.intro))
        go_ret
        exact ⟨rfl, HB.out.trans (T2.out.mono (by simp))⟩
      | true =>
        have H3 : Hid (true = (decide (0 ≤ m) && decide (m ≤ 24))) := Lib.hid h3.symm
        have hg : grpB l = true := by
          cases hg : grpB l with
          | true => rfl
          | false =>
            unfold isE at h1
            rw [ordN_no hg, Bool.and_eq_true] at h1
            have h4 := of_decide_eq_true h1.1
            have h5 := of_decide_eq_true h1.2
            omega
        rw [show prgE l x d m = ((prgN l x.toNat d.toNat m.toNat : Nat) : Int) by unfold prgE; rw [h1, h2, h3]; rfl]
        unfold isE at h1 h2
        rw [ordN_grp hg] at h1 h2
        simp only [Bool.and_eq_true, decide_eq_true_eq] at h1 h2 h3
        obtain ⟨X, rfl⟩ : ∃ X : Nat, x = (X : Int) := ⟨x.toNat, by omega⟩
        obtain ⟨D, rfl⟩ : ∃ D : Nat, d = (D : Int) := ⟨d.toNat, by omega⟩
        obtain ⟨M, rfl⟩ : ∃ M : Nat, m = (M : Int) := ⟨m.toNat, by omega⟩
        simp only [Int.toNat_natCast]
        have HPR := Lib.hid (fun (W : World) (h : Ints W a l) => sPrg W a l n cap X D M (by omega) (by omega) (by omega) HN.out hg h)
        obtain ⟨R, hR⟩ : ∃ R, prgN l X D M = R := ⟨_, rfl⟩
        rw [hR] at HPR ⊢
        clear h1 h2 h3 hg hR
        go_enter Tryz.func23, Tryz.ntmps23
        go_wp2_with (first
          | (go_at_call 42; refine (HPR.out _ (HI.out.below rfl T2.out)).mono ?_; rintro e w4 ⟨rfl, hb4⟩; have T4 := Lib.hid (T2.out.trans (hb4.mono T2.out.size)))
          | (go_at_call 55; refine (sIn _ _ _ _ _ H3.out).mono ?_; rintro e w3 ⟨rfl, rfl⟩)
          | (go_at_call 44; have hx_ := K1; clear hx_; refine (sIs _ _ l _ _ (D : Int) _ H2.out HN.out hm (HI.out.below rfl T1.out)).mono ?_; rintro e w2 ⟨rfl, hb2⟩; have T2 := Lib.hid (T1.out.trans (hb2.mono T1.out.size)); have c2 := keepC T2.out (by simp) C1)
          | (go_at_call 44; refine (sIs _ _ l _ _ (X : Int) _ H1.out HN.out hm (HI.out.below rfl T0.out)).mono ?_; rintro e w1 ⟨rfl, hb1⟩; have T1 := Lib.hid (T0.out.trans (hb1.mono T0.out.size)); have c1 := keepC T1.out (by simp) C1; have K1 := True.intro))
        go_ret
        exact ⟨rfl, HB.out.trans (T4.out.mono (by simp))⟩
theorem tmod_nat10 (m n : Nat) : (m : Int).tmod (n : Int) = ((m % n : Nat) : Int) := by
  rw [Int.tmod_eq_emod_of_nonneg (by omega)]
  rfl
theorem prm_no {l : List Int} {d : Nat} (h2 : 2 ≤ d) (hd : d < (prodI l).toNat) (h : (prodI l).toNat % d = 0) : prmB l = false := by
  cases e : prmB l with
  | false => rfl
  | true =>
    obtain ⟨_, _, hk⟩ := prm_yes e
    rcases hk d (Nat.dvd_of_mod_eq_zero h) with g | g <;> omega
theorem prm_all {l : List Int} (hg : grpB l = true) (h2 : 2 ≤ (prodI l).toNat) (h : ∀ d, 2 ≤ d → d < (prodI l).toNat → (prodI l).toNat % d ≠ 0) : prmB l = true := by
  unfold prmB
  rw [hg, Bool.true_and, Bool.and_eq_true, List.all_eq_true]
  refine ⟨decide_eq_true h2, fun d hd => ?_⟩
  have hd := List.mem_range.1 hd
  by_cases e : d < 2
  · simp [e]
  · have := h d (by omega) hd
    simp [this]
set_option maxHeartbeats 4000000 in
theorem sPrm (w : World) (a : Option Addr) (l : List Int) (n cap : Nat) (hn : n = l.length) (hm : n ≤ 9223372036854775807) (hi : Ints w a l) :
    Calls Tryz.prog 26 #[.agg #[.slice a n cap]] w fun e w' => e = .returned (.bool (prmB l)) ∧ Below w.heap.size w w' := by
  have HI := Lib.hid (ints_alloc hi (.cells #[.slice a n cap] 26))
  have HN := Lib.hid hn
  have C1 := newC w (.slice a n cap) 26 (n := w.heap.size) rfl
  have HB := Lib.hid (Joins.below_alloc1 w (.cells #[.slice a n cap] 26))
  have T0 := Lib.hid (Below.refl (w.alloc (.cells #[.slice a n cap] 26)).heap.size (w.alloc (.cells #[.slice a n cap] 26)))
  clear hi hn
  obtain ⟨P, HO⟩ : ∃ P : Nat, Hid (ordN l = (P : Int)) := by
    cases hg : grpB l with
    | true => exact ⟨(prodI l).toNat, Lib.hid (by rw [ordN_grp hg]; have := (ords_grp hg).prod; omega)⟩
    | false => exact ⟨0, Lib.hid (by rw [ordN_no hg]; rfl)⟩
  have hP24 : P ≤ 24 := by
    cases hg : grpB l with
    | true => have h := HO.out; rw [ordN_grp hg] at h; have := (ords_grp hg).prod; omega
    | false => have h := HO.out; rw [ordN_no hg] at h; omega
  have HNO : Hid (∀ d, 2 ≤ d → d < P → P % d = 0 → prmB l = false) := Lib.hid (fun d h2 hd hz => by
    cases hg : grpB l with
    | true =>
      have h := HO.out
      rw [ordN_grp hg] at h
      have e : (prodI l).toNat = P := by omega
      exact prm_no h2 (by rw [e]; exact hd) (by rw [e]; exact hz)
    | false => unfold prmB; rw [hg]; rfl)
  have HYE : Hid ((∀ d, 2 ≤ d → d < P → P % d ≠ 0) → prmB l = decide (2 ≤ (P : Int))) := Lib.hid (fun hall => by
    cases hg : grpB l with
    | true =>
      have h := HO.out
      rw [ordN_grp hg] at h
      have e : (prodI l).toNat = P := by omega
      by_cases h2 : 2 ≤ P
      · rw [prm_all hg (by rw [e]; exact h2) (by rw [e]; exact hall)]
        exact (decide_eq_true (by omega)).symm
      · rw [show decide (2 ≤ (P : Int)) = false from decide_eq_false (by omega)]
        unfold prmB
        rw [e, show decide (2 ≤ P) = false from decide_eq_false h2, Bool.false_and, Bool.and_false]
    | false =>
      have h := HO.out
      rw [ordN_no hg] at h
      rw [show decide (2 ≤ (P : Int)) = false from decide_eq_false (by omega)]
      unfold prmB; rw [hg]; rfl)
  obtain ⟨Z, hZ⟩ : ∃ Z, prmB l = Z := ⟨_, rfl⟩
  rw [hZ] at HNO HYE
  rw [hZ]
  clear hZ
  go_enter Tryz.func26, Tryz.ntmps26
  go_wp2_with (go_at_call 59; refine (sOrderOf _ _ _ _ _ HN.out hm (HI.out.below rfl T0.out)).mono ?_; rw [HO.out]; rintro e w1 ⟨rfl, hb1⟩; have T1 := Lib.hid (T0.out.trans (hb1.mono T0.out.size)); have c1 := keepC T1.out (by simp) C1)
  go_loopw [4] (fun i wr => ∃ d : Nat, 2 ≤ d ∧ (d ≤ P ∨ d = 2) ∧ i = .int .i64 d ∧ (∀ k, 2 ≤ k → k < d → k < P → P % k ≠ 0) ∧ w1 = wr) (fun i _ => P - (intOf i).toNat)
  case atStart => exact ⟨2, by omega, .inr rfl, rfl, fun k h1 h2 => absurd h2 (by omega), rfl⟩
  case round =>
    obtain ⟨d, hd2, hdP, rfl, hall, rfl⟩ := hrel
    have HALL := Lib.hid hall
    clear hall
    by_cases hlt : d < P
    · have hd24 : d ≤ 24 := by omega
      have hdi : (d : Int) < (P : Int) := by omega
      have hd0 : ((d : Int) == 0) = false := by simp; omega
      have HM := Lib.hid (tmod_nat10 P d)
      by_cases hz : P % d = 0
      · have HZF := Lib.hid (HNO.out d hd2 hlt hz)
        have hm0 : (P : Int).tmod (d : Int) = 0 := by rw [HM.out, hz]; rfl
        have hm1 : (P : Int) % (d : Int) = 0 := by omega
        clear hz
        go_wp2
        go_ret
        exact ⟨by rw [HZF.out]; rfl, HB.out.trans (T1.out.mono (by simp))⟩
      · have hm0 : ((P : Int).tmod (d : Int) == 0) = false := by rw [HM.out]; simp; omega
        have hm1 : ((P : Int) % (d : Int) == 0) = false := by
          have : (P : Int) % (d : Int) ≠ 0 := by omega
          simpa using this
        have HZ0 := Lib.hid hz
        clear hz
        go_wp2
        go_roundw
        case rel => exact ⟨d + 1, by omega, by omega, by go_num, fun k h1 h2 h3 => by
          by_cases e : k = d
          · subst e; exact HZ0.out
          · exact HALL.out k h1 (by omega) h3, by first | trivial | rfl⟩
        case measure => simp [intOf]; omega
    · have HZT := Lib.hid (HYE.out (fun k h1 h2 => HALL.out k h1 (by omega) h2))
      have hdi : ¬ (d : Int) < (P : Int) := by omega
      go_wp2
      go_ret
      exact ⟨by rw [HZT.out]; rfl, HB.out.trans (T1.out.mono (by simp))⟩
end Go.Proofs.YtfkleihnafeoeaaGreatDoor

namespace Go.Proofs.YtfkleihnafeoeaaGreatDoor
open Go.RowKit
set_option maxRecDepth 1000000
/-- A list that lies in another row than the one that grew. -/
theorem ints_grownV {W W' : World} {aL : Option Addr} {L : List Int} {row : Option Nat} (h : Ints W aL L) (hg : W.grownBy W' row) (hs : W.heap.size ≤ W'.heap.size) (hne : ∀ b off, aL = some ⟨b, off, none⟩ → some b ≠ row) : Ints W' aL L := by
  rcases h with h0 | ⟨b, off, h1, hbl, hc⟩
  · exact .inl h0
  · exact .inr ⟨b, off, h1, Nat.lt_of_lt_of_le hbl hs, fun k hk => hg.cell (hc k hk) (hne b off h1)⟩
def difK (l : List Int) (s k : Nat) : List Nat := (List.range k).filter (fineB l s)
theorem dif_yes {l : List Int} {s k : Nat} (h : fineB l s k = true) : difK l s (k + 1) = difK l s k ++ [k] := by
  unfold difK
  rw [List.range_succ, List.filter_append]
  simp [h]
theorem dif_no {l : List Int} {s k : Nat} (h : fineB l s k = false) : difK l s (k + 1) = difK l s k := by
  unfold difK
  rw [List.range_succ, List.filter_append]
  simp [h]
theorem dif_len (l : List Int) (s k : Nat) : (difK l s k).length ≤ k := by
  unfold difK
  refine Nat.le_trans (List.length_filter_le _ _) ?_
  rw [List.length_range]
  exact Nat.le_refl _
def vI (x : Nat) : Value := .int .i64 (x : Nat)
theorem beq_nat (x y : Nat) : ((x : Int) == (y : Int)) = (x == y) := by
  apply Bool.eq_iff_iff.2
  rw [beq_iff_eq, beq_iff_eq]
  omega
theorem any_take {α : Type} (f : α → Bool) (L : List α) {j : Nat} (h : (L.take j).any f = true) : L.any f = true := by
  rw [List.any_eq_true] at h ⊢
  obtain ⟨x, hx, hf⟩ := h
  exact ⟨x, List.mem_of_mem_take hx, hf⟩
theorem any_next (f : Nat → Bool) (L : List Nat) {j : Nat} (h : j < L.length) (h0 : (L.take j).any f = false) : (L.take (j + 1)).any f = f (L.getD j 0) := by
  rw [List.take_add_one, List.getElem?_eq_getElem h, List.any_append, h0]
  simp [List.getD, List.getElem?_eq_getElem h]
set_option maxHeartbeats 8000000 in
theorem sDfs (w : World) (a : Option Addr) (l : List Int) (n cap : Nat) (s : Int) (hn : n = l.length) (hm : n ≤ 9223372036854775807) (hi : Ints w a l) :
    Calls Tryz.prog 11 #[.agg #[.slice a n cap], .int .i64 s] w fun e w' => ∃ v, e = .returned v ∧ w'.ownsRow w.heap.size 3 1 v (dfsE l s).length ((dfsE l s).map (Value.int .i64)) ∧ Below w.heap.size w w' := by
  obtain ⟨i0, hi0, hz0, hz1, hz2⟩ := info_parts intInfo
  have HI := Lib.hid (ints_alloc hi (.cells #[.slice a n cap] 26))
  have HN := Lib.hid hn
  have C1 := newC w (.slice a n cap) 26 (n := w.heap.size) rfl
  have HB := Lib.hid (Joins.below_alloc1 w (.cells #[.slice a n cap] 26))
  have HI2 := Lib.hid (ints_alloc HI.out (.cells #[] 3))
  have C2 := keepC (Joins.below_alloc1 _ (.cells #[] 3)) (by simp) C1
  have HB2 := Lib.hid (Joins.below_alloc1 (w.alloc (.cells #[.slice a n cap] 26)) (.cells #[] 3))
  have OW : Hid (((w.alloc (.cells #[.slice a n cap] 26)).alloc (.cells #[] 3)).ownsRow (w.heap.size + 1) 3 1 (.slice (some ⟨w.heap.size + 1, 0, none⟩) 0 0) 0 []) := Lib.hid (by simpa using World.ownsRow_lit (base := w.heap.size + 1) (e := 3) (size := 1) (w.alloc (.cells #[.slice a n cap] 26)) #[] 0 (by simp) (by simp [maxLen]) rfl)
  clear hi hn
  cases hs : isS l s with
  | false =>
    have HS := Lib.hid hs
    rw [show dfsE l s = [] by unfold dfsE; rw [hs]; rfl]
    clear hs
    go_enter Tryz.func11, Tryz.ntmps11
    go_wp2_with (go_at_call 34; refine (sIsSet _ _ _ _ _ _ HN.out hm HI2.out).mono ?_; rw [HS.out]; rintro e w1 ⟨rfl, hb1⟩; have T1 := Lib.hid (show Below (w.heap.size + 1) (w.alloc (.cells #[.slice a n cap] 26)) w1 from (HB2.out.mono (by simp)).trans (hb1.mono (by simp))); have O1 := Lib.hid (owns_below OW.out hb1); have c1 := keepC hb1 (by simp <;> omega) C2)
    go_ret
    exact ⟨_, rfl, Joins.ownsRow_le O1.out (Nat.le_succ _), (HB.out.alloc (by simp) _).trans (hb1.mono (by simp; omega))⟩
  | true =>
    have HS := Lib.hid hs
    by_cases hs0 : s = 0
    · rw [show dfsE l s = [] by unfold dfsE; rw [hs0]; simp]
      subst hs0
      clear hs
      go_enter Tryz.func11, Tryz.ntmps11
      go_wp2_with (go_at_call 34; refine (sIsSet _ _ _ _ _ _ HN.out hm HI2.out).mono ?_; rw [HS.out]; rintro e w1 ⟨rfl, hb1⟩; have T1 := Lib.hid (show Below (w.heap.size + 1) (w.alloc (.cells #[.slice a n cap] 26)) w1 from (HB2.out.mono (by simp)).trans (hb1.mono (by simp))); have O1 := Lib.hid (owns_below OW.out hb1); have c1 := keepC hb1 (by simp <;> omega) C2)
      go_ret
      exact ⟨_, rfl, Joins.ownsRow_le O1.out (Nat.le_succ _), (HB.out.alloc (by simp) _).trans (hb1.mono (by simp; omega))⟩
    obtain ⟨hg, s, rfl, hsn, hs24⟩ := isS_true hs
    have es : ((s : Int) == 0) = false := by simpa using hs0
    have hP := (ords_grp hg).prod
    obtain ⟨P, hPe⟩ : ∃ P : Nat, prodI l = (P : Int) := ⟨(prodI l).toNat, by omega⟩
    have hPt : (prodI l).toNat = P := by omega
    have hP24 : P ≤ 24 := by omega
    rw [show dfsE l (s : Int) = (difK l s P).map (fun (x : Nat) => (x : Int)) by unfold dfsE difL difK; rw [hs, es, if_pos (show (true && !false) = true from rfl), Int.toNat_natCast, hPt]]
    have HP := Lib.hid hPe
    have HG := Lib.hid hg
    have HA := Lib.hid hs24
    have HEL := Lib.hid (fun x (hx : x ∈ bitsN s) => grp_elt hg hsn hx)
    have HPR := Lib.hid (fun (W : World) (x d : Nat) (hx : (x : Int) < prodI l) (hd : d < P) (h : Ints W a l) => sPrg W a l n cap x d (bitsN s).length (by omega) (by omega) (bits_le s) HN.out hg h)
    rw [hPe] at HEL HPR
    have HFI : Hid (∀ k, fineB l s k = (bitsN s).any fun x => prgN l x k (bitsN s).length == s) := Lib.hid (fun k => rfl)
    obtain ⟨c, HC⟩ : ∃ c, Hid ((bitsN s).length = c) := ⟨_, Lib.hid rfl⟩
    have hc24 : c ≤ 24 := by rw [← HC.out]; exact bits_le s
    have HLI : Hid (LI s ≠ []) := Lib.hid (by
      obtain ⟨i, hi⟩ := bit_ex (a := s) (show s ≠ 0 by omega)
      intro e
      have := List.ne_nil_of_mem ((mem_bits hs24 i).2 hi)
      exact this (by have h2 := congrArg List.length e; rw [LI_len] at h2; exact List.eq_nil_of_length_eq_zero h2))
    have HNZ : Hid (bitsN s ≠ []) := Lib.hid (by
      obtain ⟨i, hi⟩ := bit_ex (a := s) (show s ≠ 0 by omega)
      exact List.ne_nil_of_mem ((mem_bits hs24 i).2 hi))
    rw [HC.out] at HPR HFI
    obtain ⟨PR, hPRR⟩ : ∃ f : Nat → Nat → Nat, (fun x k => prgN l x k c) = f := ⟨_, rfl⟩
    have hv : ∀ x k, prgN l x k c = PR x k := fun x k => by rw [← hPRR]
    simp only [hv] at HPR HFI
    clear hv hPRR
    obtain ⟨D, hD⟩ : ∃ D, difK l s = D := ⟨_, rfl⟩
    have HD0 : Hid (D 0 = []) := Lib.hid (by rw [← hD]; rfl)
    have HDY : Hid (∀ k, fineB l s k = true → D (k + 1) = D k ++ [k]) := Lib.hid (fun k h => by rw [← hD]; exact dif_yes h)
    have HDN : Hid (∀ k, fineB l s k = false → D (k + 1) = D k) := Lib.hid (fun k h => by rw [← hD]; exact dif_no h)
    have HDL : Hid (∀ k, (D k).length ≤ k) := Lib.hid (fun k => by rw [← hD]; exact dif_len l s k)
    rw [hD]
    clear hs hs0 hg hs24 hsn hP hPe hPt hD
    go_enter Tryz.func11, Tryz.ntmps11
    go_wp2_with (first
      | (go_at_call 41; refine (sL3I _ s HA.out).mono ?_; rintro e w3 ⟨v3, rfl, ho3, hb3⟩; obtain ⟨a3, cap3, rfl⟩ := own_slice ho3; have I3 := Lib.hid (own_ints ho3); have O3 := Lib.hid (owns_below O1.out hb3); have T3 := Lib.hid (T1.out.trans (hb3.mono (by have := T1.out.size; simpa using this))); have c3 := keepC hb3 (World.block_lt_of_cell? w1 _ c1) c1; have X3 := Lib.hid ho3; clear ho3)
      | (go_at_call 37; refine (sBits _ s HA.out).mono ?_; rw [HC.out]; rintro e w2 ⟨rfl, rfl⟩)
      | (go_at_call 34; refine (sIsSet _ _ _ _ _ _ HN.out hm HI2.out).mono ?_; rw [HS.out]; rintro e w1 ⟨rfl, hb1⟩; have T1 := Lib.hid (show Below (w.heap.size + 1) (w.alloc (.cells #[.slice a n cap] 26)) w1 from (HB2.out.mono (by simp)).trans (hb1.mono (by simp))); have O1 := Lib.hid (owns_below OW.out hb1); have c1 := keepC hb1 (by simp <;> omega) C2))
    rcases I3.out with h0 | ⟨bL, oL, h1, hbL, hcL⟩
    · exfalso
      have hz : c = 0 := by rw [← HC.out, ← LI_len, h0]; rfl
      have hz2 := HC.out
      rw [hz] at hz2
      exact HNZ.out (List.eq_nil_of_length_eq_zero hz2)
    subst h1
    have hb1L : w1.heap.size ≤ bL := (X3.out.lt bL rfl).1
    have hw1 : w.heap.size + 1 < w1.heap.size := by have := hb1.size; simp at this; omega
    have IL3 : Hid (Ints w3 (some ⟨bL, oL, none⟩) (LI s)) := Lib.hid (.inr ⟨bL, oL, rfl, hbL, hcL⟩)
    have NE3 : Hid (some bL ≠ (Value.slice (some ⟨w.heap.size + 1, 0, none⟩) 0 0).ownBlock) := Lib.hid (by
      intro e
      have e2 : bL = w.heap.size + 1 := Option.some.inj e
      omega)
    have O3' : Hid (w3.ownsRow (w.heap.size + 1) 3 1 (.slice (some ⟨w.heap.size + 1, 0, none⟩) 0 0) (D 0).length ((D 0).map vI)) := Lib.hid (by rw [HD0.out]; exact O3.out)
    clear I3 hcL X3 hb1L O3
    go_loopw [5, 8] (fun v dd wr => ∃ k : Nat, k ≤ P ∧ dd = .int .i64 k ∧ wr.ownsRow (w.heap.size + 1) 3 1 v (D k).length ((D k).map vI) ∧ some bL ≠ v.ownBlock ∧ Ints wr (some ⟨bL, oL, none⟩) (LI s) ∧ Below (w.heap.size + 1) (w.alloc (.cells #[.slice a n cap] 26)) wr) (fun _ dd _ => P - (intOf dd).toNat)
    case atStart => exact ⟨0, Nat.zero_le _, rfl, O3'.out, NE3.out, IL3.out, T3.out⟩
    case round =>
      rename_i vv _
      obtain ⟨k, hk, rfl, hown, hne, hil, hbel⟩ := hrel
      obtain ⟨wa, rfl⟩ : ∃ W, W = wr := ⟨wr, rfl⟩
      have c4 := keepC hbel (by simp) C1
      have HIr := Lib.hid (HI.out.below (by simp) hbel)
      have HOW := Lib.hid hown
      have HNE := Lib.hid hne
      have HIL := Lib.hid hil
      have HBL := Lib.hid hbel
      clear hown hne hil hbel
      by_cases hlt : k < P
      · have HFK := Lib.hid (HFI.out k)
        have HPK := Lib.hid (fun W x hx h => HPR.out W x k hx hlt h)
        have HY := Lib.hid (HDY.out k)
        have HZ := Lib.hid (HDN.out k)
        have hdl := HDL.out k
        obtain ⟨PK, hPKK⟩ : ∃ f, (fun x => PR x k) = f := ⟨_, rfl⟩
        have hv : ∀ x, PR x k = PK x := fun x => by rw [← hPKK]
        simp only [hv] at HFK HPK
        clear hv hPKK
        go_wp2_with (go_at_call 35; refine (sOrder _ _ l _ _ HN.out HG.out HIr.out).mono ?_; rw [HP.out]; rintro e w5 ⟨rfl, hb5⟩; have T5 := Lib.hid (HBL.out.trans (hb5.mono (by have := HBL.out.size; simpa using this))); have O5 := Lib.hid (owns_below HOW.out hb5); have HI5 := Lib.hid (HIr.out.below rfl hb5); have IL5 := Lib.hid (HIL.out.below rfl hb5); have c5 := keepC hb5 (World.block_lt_of_cell? wa _ c4) c4)
        go_loopw [9, 10] (fun f i wr => ∃ j : Nat, j ≤ c ∧ i = .int .i64 j ∧ f = .bool (((bitsN s).take j).any fun x => PK x == s) ∧ Below w5.heap.size w5 wr) (fun _ i _ => c - (intOf i).toNat)
        case atStart => exact ⟨0, Nat.zero_le _, rfl, rfl, Below.refl _ _⟩
        case round =>
          obtain ⟨j, hj, rfl, rfl, hb6⟩ := hrel
          have HB6 := Lib.hid hb6
          have c6 := keepC hb6 (World.block_lt_of_cell? w5 _ c5) c5
          have T6 := Lib.hid (T5.out.trans (hb6.mono (by have := T5.out.size; simpa using this)))
          have O6 := Lib.hid (owns_below O5.out hb6)
          have IL6 := Lib.hid (IL5.out.below rfl hb6)
          have HI6 := Lib.hid (HI5.out.below rfl hb6)
          have HLN := Lib.hid (LI_len s)
          have hlen : ((LI s).length : Int) = (c : Int) := by rw [HLN.out, HC.out]
          clear hb6
          cases hany : ((bitsN s).take j).any fun x => PK x == s with
          | true =>
            have HFT : Hid (fineB l s k = true) := Lib.hid (by rw [HFK.out]; exact any_take _ _ hany)
            have E1 := Lib.hid (HY.out HFT.out)
            clear hany
            by_cases hjc : j < c
            · have hji : (j : Int) < (c : Int) := by omega
              go_wp2_with (at_builtin; refine wpList_append_own_at _ rfl _ _ 24 rfl (w.heap.size + 1) 3 i0 (.int .i64 0) 1 8 Tryz.underlying24 hi0 hz0 hz1 hz2 rfl (by decide) _ _ _ rfl (O6.out.alloc _) ⟨wr.heap.size, 0, none⟩ 1 1 [vI k] rfl (by simp) ?c1 ?c2 ?c3 ?c4 ?c5 ?_)
              case c1 =>
                intro q u2 hq
                match q, hq with
                | 0, hq => simp at hq; subst hq; first | (simp [vI]; done) | simp [Addr.add, vI]
              case c2 => first | (intro u2 hu2; simp at hu2; subst hu2; rfl) | rfl
              case c3 => unfold maxLen; omega
              case c4 => omega
              case c5 => have := T6.out.size; simp at *; omega
              intro v' w8 hown' hgrow _ hob
              have HBW : Hid (Below (w.heap.size + 1) (w.alloc (.cells #[.slice a n cap] 26)) w8) := Lib.hid ((T6.out.alloc (by have := T6.out.size; simp at *; omega) _).grown hgrow (by have := T6.out.size; simp at *; omega) (fun g hg => by have := (O6.out.lt g hg).1; omega))
              have HOW8 : Hid (w8.ownsRow (w.heap.size + 1) 3 1 v' (D (k + 1)).length ((D (k + 1)).map vI)) := Lib.hid (by
                rw [E1.out, List.length_append, List.map_append]
                simpa using hown')
              have IL8 := Lib.hid (ints_grownV (IL6.out.below rfl (Joins.below_alloc1 wr (.cells #[vI k] 3))) hgrow hgrow.size (fun b off e => by cases e; exact HNE.out))
              have NE8 : Hid (some bL ≠ v'.ownBlock) := Lib.hid (by
                rcases hob with e | e
                · rw [e]; exact HNE.out
                · rw [e]
                  intro q
                  have q2 := Option.some.inj q
                  rcases IL6.out with h0 | ⟨b, off, h1, hb, _⟩
                  · exact HLI.out h0
                  · cases h1
                    first | omega | (rw [World.size_alloc] at q2; omega))
              clear hown' hgrow hob
              go_wp2
              go_roundw
              case rel => exact ⟨k + 1, by omega, by go_num, HOW8.out, NE8.out, IL8.out, HBW.out⟩
              case measure => simp [intOf]; omega
            · have hji : ¬ (j : Int) < (c : Int) := by omega
              go_wp2_with (at_builtin; refine wpList_append_own_at _ rfl _ _ 24 rfl (w.heap.size + 1) 3 i0 (.int .i64 0) 1 8 Tryz.underlying24 hi0 hz0 hz1 hz2 rfl (by decide) _ _ _ rfl (O6.out.alloc _) ⟨wr.heap.size, 0, none⟩ 1 1 [vI k] rfl (by simp) ?c1 ?c2 ?c3 ?c4 ?c5 ?_)
              case c1 =>
                intro q u2 hq
                match q, hq with
                | 0, hq => simp at hq; subst hq; first | (simp [vI]; done) | simp [Addr.add, vI]
              case c2 => first | (intro u2 hu2; simp at hu2; subst hu2; rfl) | rfl
              case c3 => unfold maxLen; omega
              case c4 => omega
              case c5 => have := T6.out.size; simp at *; omega
              intro v' w8 hown' hgrow _ hob
              have HBW : Hid (Below (w.heap.size + 1) (w.alloc (.cells #[.slice a n cap] 26)) w8) := Lib.hid ((T6.out.alloc (by have := T6.out.size; simp at *; omega) _).grown hgrow (by have := T6.out.size; simp at *; omega) (fun g hg => by have := (O6.out.lt g hg).1; omega))
              have HOW8 : Hid (w8.ownsRow (w.heap.size + 1) 3 1 v' (D (k + 1)).length ((D (k + 1)).map vI)) := Lib.hid (by
                rw [E1.out, List.length_append, List.map_append]
                simpa using hown')
              have IL8 := Lib.hid (ints_grownV (IL6.out.below rfl (Joins.below_alloc1 wr (.cells #[vI k] 3))) hgrow hgrow.size (fun b off e => by cases e; exact HNE.out))
              have NE8 : Hid (some bL ≠ v'.ownBlock) := Lib.hid (by
                rcases hob with e | e
                · rw [e]; exact HNE.out
                · rw [e]
                  intro q
                  have q2 := Option.some.inj q
                  rcases IL6.out with h0 | ⟨b, off, h1, hb, _⟩
                  · exact HLI.out h0
                  · cases h1
                    first | omega | (rw [World.size_alloc] at q2; omega))
              clear hown' hgrow hob
              go_wp2
              go_roundw
              case rel => exact ⟨k + 1, by omega, by go_num, HOW8.out, NE8.out, IL8.out, HBW.out⟩
              case measure => simp [intOf]; omega
          | false =>
            by_cases hjc : j < c
            · have hjl : j < (bitsN s).length := by rw [HC.out]; exact hjc
              have HNX := Lib.hid (any_next (fun x => PK x == s) (bitsN s) hjl hany)
              have hji : (j : Int) < (c : Int) := by omega
              have hmem : (bitsN s).getD j 0 ∈ bitsN s := by
                rw [List.getD, List.getElem?_eq_getElem hjl]
                exact List.getElem_mem hjl
              have hyP := HEL.out _ hmem
              have hkl : j < (LI s).length := by rw [HLN.out]; exact hjl
              rcases IL6.out with h0 | ⟨b, off, h1, hbl, hcl⟩
              · exact absurd h0 HLI.out
              cases h1
              have d6 := hcl j hkl
              rw [LI_at s j hjl] at d6
              obtain ⟨y, hy⟩ : ∃ y, (bitsN s).getD j 0 = y := ⟨_, rfl⟩
              rw [hy] at d6 hyP HNX
              have HPY := Lib.hid (fun W h => HPK.out W y hyP h)
              obtain ⟨V, hV⟩ : ∃ V, PK y = V := ⟨_, rfl⟩
              rw [hV] at HPY HNX
              have HEQ := Lib.hid (beq_nat V s)
              have HBD := Lib.hid ((Below.refl wr.heap.size wr).drew)
              clear hany hmem hyP hkl hcl hy hV hjl
              go_wp2
              go_region_held3 (fun W => W.cell? ⟨w.heap.size, 0, none⟩ = some (.slice a n cap) ∧ W.cell? ⟨bL, oL + j, none⟩ = some (.int .i64 (y : Nat))) (first | exact ⟨c8, d8⟩ | exact ⟨c6, d6⟩)
                (first | (go_at_call 42; refine (HPY.out _ (HI6.out.below rfl HBD.out)).mono ?_; rintro e w8 ⟨rfl, hb8⟩; have c8 := keepC hb8 (World.block_lt_of_cell? _ _ c6) c6; have d8 := keepC hb8 (World.block_lt_of_cell? _ _ d6) d6))
              all_goals
                go_wp2
                go_roundw
                case rel => exact ⟨j + 1, by omega, by go_num, by rw [HNX.out, HEQ.out], HB6.out.trans ((HBD.out.trans hb8).mono HB6.out.size)⟩
                case measure => simp [intOf]; omega
            · obtain rfl : j = c := by omega
              have HFF : Hid (fineB l s k = false) := Lib.hid (by
                rw [HFK.out, ← hany, ← HC.out, List.take_length])
              have E1 := Lib.hid (HZ.out HFF.out)
              have hji : ¬ (j : Int) < (j : Int) := by omega
              clear hany
              go_wp2
              go_roundw
              case rel => exact ⟨k + 1, by omega, by go_num, by rw [E1.out]; exact O6.out, HNE.out, IL6.out, T6.out⟩
              case measure => simp [intOf]; omega
      · obtain rfl : k = P := by omega
        go_wp2_with (go_at_call 35; refine (sOrder _ _ l _ _ HN.out HG.out HIr.out).mono ?_; rw [HP.out]; rintro e w5 ⟨rfl, hb5⟩)
        go_ret
        exact ⟨_, rfl, by rw [List.length_map, List.map_map]; exact Joins.ownsRow_le (owns_below HOW.out hb5) (Nat.le_succ _), (HB.out.mono (Nat.le_refl _)).trans ((HBL.out.trans (hb5.mono (by have := HBL.out.size; simpa using this))).mono (by omega))⟩
end Go.Proofs.YtfkleihnafeoeaaGreatDoor

namespace Go.Proofs.YtfkleihnafeoeaaGreatDoor
open Go.RowKit
set_option maxRecDepth 1000000
theorem find_at {p : Int → Bool} : ∀ {L : List Int} {i : Nat}, i < L.length → p (L.getD i 0) = true → (∀ k, k < i → p (L.getD k 0) = false) → L.find? p = some (L.getD i 0)
  | [], i, h, _, _ => absurd h (by simp)
  | x :: L, 0, _, h, _ => by
    have h2 : p x = true := h
    rw [List.find?_cons, h2]
    rfl
  | x :: L, i + 1, h, h1, h2 => by
    have h3 : p x = false := h2 0 (by omega)
    rw [List.find?_cons, h3]
    exact find_at (by simpa using h) h1 (fun k hk => h2 (k + 1) (by omega))
theorem find_no {p : Int → Bool} {L : List Int} (h : ∀ k, k < L.length → p (L.getD k 0) = false) : L.find? p = none := by
  rw [List.find?_eq_none]
  intro x hx
  obtain ⟨k, hk, e⟩ := List.getElem_of_mem hx
  have := h k hk
  simp [List.getD, List.getElem?_eq_getElem hk, e] at this
  simp [this]
theorem has_at {L : List Int} {j : Nat} {x : Int} (h : j < L.length) (e : L.getD j 0 = x) : L.contains x = true := by
  have : x ∈ L := by rw [← e, List.getD, List.getElem?_eq_getElem h]; exact List.getElem_mem h
  simpa using this
theorem has_no {L : List Int} {x : Int} (h : ∀ j, j < L.length → L.getD j 0 ≠ x) : L.contains x = false := by
  cases e : L.contains x with
  | false => rfl
  | true =>
    have : x ∈ L := by simpa using e
    obtain ⟨k, hk, e2⟩ := List.getElem_of_mem this
    exact absurd (by simp [List.getD, List.getElem?_eq_getElem hk, e2]) (h k hk)
theorem dfs_len (l : List Int) (s : Int) : (dfsE l s).length ≤ 24 := by
  cases hs : isS l s with
  | false => rw [show dfsE l s = [] by unfold dfsE; rw [hs]; rfl]; simp
  | true =>
    obtain ⟨hg, _⟩ := isS_true hs
    have hp := (ords_grp hg).prod
    unfold dfsE
    by_cases h : (isS l s && !(s == 0)) = true
    · rw [if_pos h, List.length_map]
      unfold difL
      refine Nat.le_trans (List.length_filter_le _ _) ?_
      rw [List.length_range]
      omega
    · rw [if_neg h]; simp
set_option maxHeartbeats 8000000 in
theorem sCom (w : World) (a : Option Addr) (l : List Int) (n cap : Nat) (s t : Int) (hn : n = l.length) (hm : n ≤ 9223372036854775807) (hi : Ints w a l) :
    Calls Tryz.prog 18 #[.agg #[.slice a n cap], .int .i64 s, .int .i64 t] w fun e w' => e = .returned (.tuple #[.int .i64 (comE l s t), .bool (comB l s t)]) ∧ Below w.heap.size w w' := by
  have HI := Lib.hid (ints_alloc hi (.cells #[.slice a n cap] 26))
  have HN := Lib.hid hn
  have C1 := newC w (.slice a n cap) 26 (n := w.heap.size) rfl
  have HB := Lib.hid (Joins.below_alloc1 w (.cells #[.slice a n cap] 26))
  have T0 := Lib.hid (Below.refl (w.alloc (.cells #[.slice a n cap] 26)).heap.size (w.alloc (.cells #[.slice a n cap] 26)))
  clear hi hn
  have hx24 := dfs_len l s
  have hy24 := dfs_len l t
  have HCO : Hid (comO l s t = (dfsE l s).find? fun x => (dfsE l t).contains x) := Lib.hid rfl
  have HCE : Hid (comE l s t = (comO l s t).getD 0 ∧ comB l s t = (comO l s t).isSome) := Lib.hid ⟨rfl, rfl⟩
  obtain ⟨X, HX⟩ : ∃ X, Hid (dfsE l s = X) := ⟨_, Lib.hid rfl⟩
  obtain ⟨Y, HY⟩ : ∃ Y, Hid (dfsE l t = Y) := ⟨_, Lib.hid rfl⟩
  rw [HX.out] at hx24 HCO
  rw [HY.out] at hy24 HCO
  rw [HCE.out.1, HCE.out.2]
  obtain ⟨Z, hZ⟩ : ∃ Z, comO l s t = Z := ⟨_, rfl⟩
  rw [hZ] at HCO
  rw [hZ]
  clear HCE hZ
  go_enter Tryz.func18, Tryz.ntmps18
  go_wp2_with (first
    | (go_at_call 11; have hx_ := T1; clear hx_; refine (sDfs _ _ _ _ _ _ HN.out hm (HI.out.below rfl T1.out)).mono ?_; rw [HY.out]; rintro e w2 ⟨v2, rfl, ho2, hb2⟩; obtain ⟨a2, cap2, rfl⟩ := own_slice ho2; have I2 := Lib.hid (own_ints ho2); have T2 := Lib.hid (T1.out.trans (hb2.mono T1.out.size)); have c2 := keepC T2.out (by simp) C1; clear ho2; have I1 := Lib.hid (I1.out.below rfl hb2))
    | (go_at_call 11; refine (sDfs _ _ _ _ _ _ HN.out hm (HI.out.below rfl T0.out)).mono ?_; rw [HX.out]; rintro e w1 ⟨v1, rfl, ho1, hb1⟩; obtain ⟨a1, cap1, rfl⟩ := own_slice ho1; have I1 := Lib.hid (own_ints ho1); have T1 := Lib.hid (T0.out.trans (hb1.mono T0.out.size)); have c1 := keepC T1.out (by simp) C1; clear ho1))
  obtain ⟨NX, HLX⟩ : ∃ N, Hid (X.length = N) := ⟨_, Lib.hid rfl⟩
  obtain ⟨NY, HLY⟩ : ∃ N, Hid (Y.length = N) := ⟨_, Lib.hid rfl⟩
  rw [HLX.out] at hx24
  rw [HLY.out] at hy24
  rw [HLX.out, HLY.out]
  go_loopw [10] (fun i wr => ∃ k : Nat, k ≤ NX ∧ i = .int .i64 k ∧ (∀ j, j < k → Y.contains (X.getD j 0) = false) ∧ Below w2.heap.size w2 wr) (fun i _ => NX - (intOf i).toNat)
  case atStart => exact ⟨0, Nat.zero_le _, rfl, fun j h => absurd h (by omega), Below.refl _ _⟩
  case round =>
    obtain ⟨k, hk, rfl, hall, hbel⟩ := hrel
    obtain ⟨wa, rfl⟩ : ∃ W, W = wr := ⟨wr, rfl⟩
    have HALL := Lib.hid hall
    have HBL := Lib.hid hbel
    have I1a := Lib.hid (I1.out.below rfl hbel)
    have I2a := Lib.hid (I2.out.below rfl hbel)
    clear hall hbel
    by_cases hlt : k < NX
    · have hki : (k : Int) < (NX : Int) := by omega
      go_wp2
      go_loopw [11] (fun i wr => ∃ m : Nat, m ≤ NY ∧ i = .int .i64 m ∧ (∀ j, j < m → Y.getD j 0 ≠ X.getD k 0) ∧ Below wa.heap.size wa wr) (fun i _ => NY - (intOf i).toNat)
      case atStart => exact ⟨0, Nat.zero_le _, rfl, fun j h => absurd h (by omega), Below.refl _ _⟩
      case round =>
        obtain ⟨m, hmm, rfl, hno, hb6⟩ := hrel
        have HNO := Lib.hid hno
        have HB6 := Lib.hid hb6
        by_cases hmy : m < NY
        · have hmi : (m : Int) < (NY : Int) := by omega
          have hkx : k < X.length := by rw [HLX.out]; exact hlt
          have hmyl : m < Y.length := by rw [HLY.out]; exact hmy
          rcases I1a.out.below rfl hb6 with h0 | ⟨b1, o1, e1, _, f1⟩
          · rw [h0] at hkx; simp at hkx
          rcases I2a.out.below rfl hb6 with h0 | ⟨b2, o2, e2, _, f2⟩
          · rw [h0] at hmyl; simp at hmyl
          subst e1 e2
          have q1 := f1 k hkx
          have q2 := f2 m hmyl
          have HHA := Lib.hid (fun e => has_at (L := Y) (j := m) (x := X.getD k 0) hmyl e)
          have HFA := Lib.hid (fun h => find_at (p := fun x => Y.contains x) hkx h HALL.out)
          obtain ⟨x, HXK⟩ : ∃ x, Hid (X.getD k 0 = x) := ⟨_, Lib.hid rfl⟩
          obtain ⟨y, HYM⟩ : ∃ y, Hid (Y.getD m 0 = y) := ⟨_, Lib.hid rfl⟩
          rw [HXK.out] at q1 HHA HFA
          rw [HYM.out] at q2 HHA
          clear hno hb6 f1 f2 hkx hmyl
          by_cases hxy : x = y
          · have HZS : Hid (Z = some x) := Lib.hid (by rw [HCO.out]; exact HFA.out (HHA.out hxy.symm))
            have HXY := Lib.hid hxy
            have hbq : (x == y) = true := by simpa using hxy
            clear hxy HHA HFA
            go_wp2
            go_region_held3 (fun W => W.cell? ⟨b1, o1 + k, none⟩ = some (.int .i64 x) ∧ W.cell? ⟨b2, o2 + m, none⟩ = some (.int .i64 y)) (exact ⟨q1, q2⟩) (fail)
            all_goals
              go_wp2
              go_ret2
              exact ⟨by rw [HZS.out]; rfl, HB.out.trans ((T2.out.trans (((HBL.out.trans (HB6.out.mono HBL.out.size)).drew).mono T2.out.size)).mono (by simp))⟩
          · have hbq : (x == y) = false := by simpa using hxy
            have HNXY := Lib.hid hxy
            clear hxy HHA HFA
            go_wp2
            go_region_held3 (fun W => W.cell? ⟨b1, o1 + k, none⟩ = some (.int .i64 x) ∧ W.cell? ⟨b2, o2 + m, none⟩ = some (.int .i64 y)) (exact ⟨q1, q2⟩) (fail)
            all_goals
              go_wp2
              go_roundw
              case rel => exact ⟨m + 1, by omega, by go_num, fun j hj => by
                by_cases e : j = m
                · subst e; rw [HYM.out, HXK.out]; exact fun q => HNXY.out q.symm
                · exact HNO.out j (by omega), HB6.out.drew⟩
              case measure => simp [intOf]; omega
        · obtain rfl : m = NY := by omega
          have HHN := Lib.hid (has_no (fun j hj => hno j (by rw [← HLY.out]; exact hj)))
          have hmi : ¬ (m : Int) < (m : Int) := by omega
          clear hno hb6
          go_wp2
          go_roundw
          case rel => exact ⟨k + 1, by omega, by go_num, fun j hj => by
            by_cases e : j = k
            · subst e; exact HHN.out
            · exact HALL.out j (by omega), HBL.out.trans (HB6.out.mono HBL.out.size)⟩
          case measure => simp [intOf]; omega
    · obtain rfl : k = NX := by omega
      have HZN : Hid (Z = none) := Lib.hid (by rw [HCO.out]; exact find_no (fun j hj => HALL.out j (by rw [← HLX.out]; exact hj)))
      have hki : ¬ (k : Int) < (k : Int) := by omega
      go_wp2
      go_ret2
      exact ⟨by rw [HZN.out]; rfl, HB.out.trans ((T2.out.trans (HBL.out.mono T2.out.size)).mono (by simp))⟩
end Go.Proofs.YtfkleihnafeoeaaGreatDoor

namespace Go.Proofs.YtfkleihnafeoeaaGreatDoor
open Go.RowKit
set_option maxRecDepth 1000000
/-- The texts of the cases. -/
def vosT : Nat → ByteArray
  | 0 => ByteArray.mk #[]
  | 1 => ByteArray.mk #[119, 104, 111, 108, 101]
  | 2 => ByteArray.mk #[108, 97, 114, 103, 101]
  | 3 => ByteArray.mk #[111, 110, 101]
  | 4 => ByteArray.mk #[115, 116, 101, 112, 115]
  | 5 => ByteArray.mk #[103, 97, 112]
  | _ => ByteArray.mk #[110, 111, 110, 101]
/-- The case by the answers to the questions. -/
def vosF (b1 b2 b3 b4 b5 c b7 : Bool) : Nat := if (b1 && b2) = true then 1 else if b3 = false then 2 else if (b4 || b5) = true then 3 else if c = true then 4 else if b7 = true then 5 else 6
theorem vos_no {l : List Int} {s t : Int} (h : (prmB l && neB l s t) = false) : vosK l s t = 0 := by unfold vosK; rw [if_neg (by simp [h])]
theorem vos_yes {l : List Int} {s t : Int} (h : (prmB l && neB l s t) = true) : vosK l s t = vosF (((bitsN (sumN l s.toNat t.toNat)).length : Int) == prodI l) (decide (prodI l ≤ ((bitsN s.toNat).length : Int) + ((bitsN t.toNat).length : Int) - 1)) (((bitsN (sumN l s.toNat t.toNat)).length : Int) == ((bitsN s.toNat).length : Int) + ((bitsN t.toNat).length : Int) - 1) (((bitsN s.toNat).length : Int) == 1) (((bitsN t.toNat).length : Int) == 1) (comB l s t) ((((bitsN s.toNat).length : Int) + ((bitsN t.toNat).length : Int) - 1) == prodI l - 1) := by
  unfold vosK vosF
  rw [if_pos h]
theorem vos_nat {l : List Int} {u v : Nat} (h : (prmB l && neB l (u : Int) (v : Int)) = true) : vosK l (u : Int) (v : Int) = vosF (((bitsN (sumN l u v)).length : Int) == prodI l) (decide (prodI l ≤ ((bitsN u).length : Int) + ((bitsN v).length : Int) - 1)) (((bitsN (sumN l u v)).length : Int) == ((bitsN u).length : Int) + ((bitsN v).length : Int) - 1) (((bitsN u).length : Int) == 1) (((bitsN v).length : Int) == 1) (comB l (u : Int) (v : Int)) ((((bitsN u).length : Int) + ((bitsN v).length : Int) - 1) == prodI l - 1) := vos_yes h
set_option maxHeartbeats 16000000 in
theorem sVos (w : World) (a : Option Addr) (l : List Int) (n cap : Nat) (s t : Int) (hn : n = l.length) (hm : n ≤ 9223372036854775807) (hi : Ints w a l) :
    Calls Tryz.prog 7 #[.agg #[.slice a n cap], .int .i64 s, .int .i64 t] w fun e w' => e = .returned (.string (vosT (vosK l s t))) ∧ Below w.heap.size w w' := by
  have HI := Lib.hid (ints_alloc hi (.cells #[.slice a n cap] 26))
  have HN := Lib.hid hn
  have C1 := newC w (.slice a n cap) 26 (n := w.heap.size) rfl
  have HB := Lib.hid (Joins.below_alloc1 w (.cells #[.slice a n cap] 26))
  have T0 := Lib.hid (Below.refl (w.alloc (.cells #[.slice a n cap] 26)).heap.size (w.alloc (.cells #[.slice a n cap] 26)))
  clear hi hn
  cases hpm : prmB l with
  | false =>
    have HPM := Lib.hid hpm
    rw [show vosK l s t = 0 from vos_no (by rw [hpm]; rfl)]
    clear hpm
    go_enter Tryz.func7, Tryz.ntmps7
    go_wp2_with (first
      | (go_at_call 26; refine (sPrm _ _ _ _ _ HN.out hm (HI.out.below rfl T0.out)).mono ?_; rw [HPM.out]; rintro e w1 ⟨rfl, hb1⟩; have T1 := Lib.hid (T0.out.trans (hb1.mono T0.out.size)); have c1 := keepC T1.out (by simp) C1; have K1 := True.intro))
    go_ret
    exact ⟨by first | rfl | (rw [HKK.out]; rfl), HB.out.trans (T1.out.mono (by simp))⟩
  | true =>
    have HPM := Lib.hid hpm
    cases hs : isS l s with
    | false =>
      have HS := Lib.hid hs
      rw [show vosK l s t = 0 from vos_no (by unfold neB two; rw [hs]; simp)]
      clear hpm hs
      go_enter Tryz.func7, Tryz.ntmps7
      go_wp2_with (first
        | (go_at_call 34; have hx_ := K1; clear hx_; refine (sIsSet _ _ _ _ _ _ HN.out hm (HI.out.below rfl T1.out)).mono ?_; rw [HS.out]; rintro e w2 ⟨rfl, hb2⟩; have T2 := Lib.hid (T1.out.trans (hb2.mono T1.out.size)); have c2 := keepC T2.out (by simp) C1; have K2 := True.intro)
        | (go_at_call 26; refine (sPrm _ _ _ _ _ HN.out hm (HI.out.below rfl T0.out)).mono ?_; rw [HPM.out]; rintro e w1 ⟨rfl, hb1⟩; have T1 := Lib.hid (T0.out.trans (hb1.mono T0.out.size)); have c1 := keepC T1.out (by simp) C1; have K1 := True.intro))
      go_ret
      exact ⟨by first | rfl | (rw [HKK.out]; rfl), HB.out.trans (T2.out.mono (by simp))⟩
    | true =>
      have HS := Lib.hid hs
      cases ht : isS l t with
      | false =>
        have HS2 := Lib.hid ht
        rw [show vosK l s t = 0 from vos_no (by unfold neB two; rw [hs, ht]; simp)]
        clear hpm hs ht
        go_enter Tryz.func7, Tryz.ntmps7
        go_wp2_with (first
          | (go_at_call 34; have hx_ := K2; clear hx_; refine (sIsSet _ _ _ _ _ _ HN.out hm (HI.out.below rfl T2.out)).mono ?_; rw [HS2.out]; rintro e w3 ⟨rfl, hb3⟩; have T3 := Lib.hid (T2.out.trans (hb3.mono T2.out.size)); have c3 := keepC T3.out (by simp) C1; have K3 := True.intro)
          | (go_at_call 34; have hx_ := K1; clear hx_; refine (sIsSet _ _ _ _ _ _ HN.out hm (HI.out.below rfl T1.out)).mono ?_; rw [HS.out]; rintro e w2 ⟨rfl, hb2⟩; have T2 := Lib.hid (T1.out.trans (hb2.mono T1.out.size)); have c2 := keepC T2.out (by simp) C1; have K2 := True.intro)
          | (go_at_call 26; refine (sPrm _ _ _ _ _ HN.out hm (HI.out.below rfl T0.out)).mono ?_; rw [HPM.out]; rintro e w1 ⟨rfl, hb1⟩; have T1 := Lib.hid (T0.out.trans (hb1.mono T0.out.size)); have c1 := keepC T1.out (by simp) C1; have K1 := True.intro))
        go_ret
        exact ⟨by first | rfl | (rw [HKK.out]; rfl), HB.out.trans (T3.out.mono (by simp))⟩
      | true =>
        have HS2 := Lib.hid ht
        by_cases hs0 : s = 0
        · rw [show vosK l s t = 0 from vos_no (by unfold neB; rw [hs0]; simp)]
          subst hs0
          clear hpm hs ht
          go_enter Tryz.func7, Tryz.ntmps7
          go_wp2_with (first
            | (go_at_call 34; have hx_ := K2; clear hx_; refine (sIsSet _ _ _ _ _ _ HN.out hm (HI.out.below rfl T2.out)).mono ?_; rw [HS2.out]; rintro e w3 ⟨rfl, hb3⟩; have T3 := Lib.hid (T2.out.trans (hb3.mono T2.out.size)); have c3 := keepC T3.out (by simp) C1; have K3 := True.intro)
            | (go_at_call 34; have hx_ := K1; clear hx_; refine (sIsSet _ _ _ _ _ _ HN.out hm (HI.out.below rfl T1.out)).mono ?_; rw [HS.out]; rintro e w2 ⟨rfl, hb2⟩; have T2 := Lib.hid (T1.out.trans (hb2.mono T1.out.size)); have c2 := keepC T2.out (by simp) C1; have K2 := True.intro)
            | (go_at_call 26; refine (sPrm _ _ _ _ _ HN.out hm (HI.out.below rfl T0.out)).mono ?_; rw [HPM.out]; rintro e w1 ⟨rfl, hb1⟩; have T1 := Lib.hid (T0.out.trans (hb1.mono T0.out.size)); have c1 := keepC T1.out (by simp) C1; have K1 := True.intro))
          go_ret
          exact ⟨by first | rfl | (rw [HKK.out]; rfl), HB.out.trans (T3.out.mono (by simp))⟩
        by_cases ht0 : t = 0
        · rw [show vosK l s t = 0 from vos_no (by unfold neB; rw [ht0]; simp)]
          have es : (s == 0) = false := by simpa using hs0
          subst ht0
          clear hpm hs ht hs0
          go_enter Tryz.func7, Tryz.ntmps7
          go_wp2_with (first
            | (go_at_call 34; have hx_ := K2; clear hx_; refine (sIsSet _ _ _ _ _ _ HN.out hm (HI.out.below rfl T2.out)).mono ?_; rw [HS2.out]; rintro e w3 ⟨rfl, hb3⟩; have T3 := Lib.hid (T2.out.trans (hb3.mono T2.out.size)); have c3 := keepC T3.out (by simp) C1; have K3 := True.intro)
            | (go_at_call 34; have hx_ := K1; clear hx_; refine (sIsSet _ _ _ _ _ _ HN.out hm (HI.out.below rfl T1.out)).mono ?_; rw [HS.out]; rintro e w2 ⟨rfl, hb2⟩; have T2 := Lib.hid (T1.out.trans (hb2.mono T1.out.size)); have c2 := keepC T2.out (by simp) C1; have K2 := True.intro)
            | (go_at_call 26; refine (sPrm _ _ _ _ _ HN.out hm (HI.out.below rfl T0.out)).mono ?_; rw [HPM.out]; rintro e w1 ⟨rfl, hb1⟩; have T1 := Lib.hid (T0.out.trans (hb1.mono T0.out.size)); have c1 := keepC T1.out (by simp) C1; have K1 := True.intro))
          go_ret
          exact ⟨by first | rfl | (rw [HKK.out]; rfl), HB.out.trans (T3.out.mono (by simp))⟩
        have hne : neB l s t = true := by unfold neB two; rw [hs, ht]; simp [hs0, ht0]
        obtain ⟨hg, u, rfl, hu, hu24⟩ := isS_true hs
        obtain ⟨_, v, rfl, hv, hv24⟩ := isS_true ht
        have hK := vos_nat (show (prmB l && neB l (u : Int) (v : Int)) = true by rw [hpm, hne]; rfl)
        have es : ((u : Int) == 0) = false := by simpa using hs0
        have et : ((v : Int) == 0) = false := by simpa using ht0
        have HG := Lib.hid hg
        have HU := Lib.hid hu24
        have HV := Lib.hid hv24
        have hp := (ords_grp hg).prod
        obtain ⟨P, hPe⟩ : ∃ P : Nat, prodI l = (P : Int) := ⟨(prodI l).toNat, by omega⟩
        have hP1 : 1 ≤ P := by omega
        have hP24 : P ≤ 24 := by omega
        have HP := Lib.hid hPe
        rw [hPe] at hK
        have hx24 := grp_pow hg (sumN_lt hg u v)
        obtain ⟨X, hX⟩ : ∃ X, sumN l u v = X := ⟨_, rfl⟩
        have HX := Lib.hid hX
        rw [hX] at hK hx24
        have q1 := bits_le u
        have q2 := bits_le v
        have q3 := bits_le X
        have D1 := Lib.hid (fun (W : World) => sBits W u hu24)
        have D2 := Lib.hid (fun (W : World) => sBits W v hv24)
        have D3 := Lib.hid (fun (W : World) => sBits W X hx24)
        obtain ⟨L1, hL1⟩ : ∃ L, (bitsN u).length = L := ⟨_, rfl⟩
        obtain ⟨L2, hL2⟩ : ∃ L, (bitsN v).length = L := ⟨_, rfl⟩
        obtain ⟨L3, hL3⟩ : ∃ L, (bitsN X).length = L := ⟨_, rfl⟩
        rw [hL1] at D1 q1 hK
        rw [hL2] at D2 q2 hK
        rw [hL3] at D3 q3 hK
        obtain ⟨CE, hCE⟩ : ∃ z, comE l (u : Int) (v : Int) = z := ⟨_, rfl⟩
        obtain ⟨CB, hCB⟩ : ∃ z, comB l (u : Int) (v : Int) = z := ⟨_, rfl⟩
        have HCM := Lib.hid (And.intro hCE hCB)
        rw [hCB] at hK
        obtain ⟨B1, hB1⟩ : ∃ b, ((L3 : Int) == (P : Int)) = b := ⟨_, rfl⟩
        obtain ⟨B2, hB2⟩ : ∃ b, decide ((P : Int) ≤ (L1 : Int) + (L2 : Int) - 1) = b := ⟨_, rfl⟩
        obtain ⟨B3, hB3⟩ : ∃ b, ((L3 : Int) == (L1 : Int) + (L2 : Int) - 1) = b := ⟨_, rfl⟩
        obtain ⟨B4, hB4⟩ : ∃ b, ((L1 : Int) == 1) = b := ⟨_, rfl⟩
        obtain ⟨B5, hB5⟩ : ∃ b, ((L2 : Int) == 1) = b := ⟨_, rfl⟩
        obtain ⟨B7, hB7⟩ : ∃ b, ((L1 : Int) + (L2 : Int) - 1 == (P : Int) - 1) = b := ⟨_, rfl⟩
        rw [hB1, hB2, hB3, hB4, hB5, hB7] at hK
        have hB3n : ((L3 : Int) != (L1 : Int) + (L2 : Int) - 1) = !B3 := by rw [← hB3]; rfl
        have HKK := Lib.hid hK
        clear hpm hs ht hs0 ht0 hne hK hg hu hu24 hv hv24 hp hPe hX hx24 hL1 hL2 hL3 hCE hCB
        cases B1 with
        | true =>
          cases B2 with
          | true =>
            go_enter Tryz.func7, Tryz.ntmps7
            go_wp2_with (first
              | (go_at_call 37; have hx_ := K11; clear hx_; refine (D2.out _).mono ?_; rintro e w_ ⟨rfl, rfl⟩; have K12 := True.intro)
              | (go_at_call 37; have hx_ := K10; clear hx_; refine (D1.out _).mono ?_; rintro e w_ ⟨rfl, rfl⟩; have K11 := True.intro)
              | (go_at_call 37; have hx_ := K9; clear hx_; refine (D3.out _).mono ?_; rintro e w_ ⟨rfl, rfl⟩; have K10 := True.intro)
              | (go_at_call 37; have hx_ := K8; clear hx_; refine (D3.out _).mono ?_; rintro e w_ ⟨rfl, rfl⟩; have K9 := True.intro)
              | (go_at_call 18; have hx_ := K7; clear hx_; refine (sCom _ _ _ _ _ _ _ HN.out hm (HI.out.below rfl T5.out)).mono ?_; rw [HCM.out.1, HCM.out.2]; rintro e w6 ⟨rfl, hb6⟩; have T6 := Lib.hid (T5.out.trans (hb6.mono T5.out.size)); have c6 := keepC T6.out (by simp) C1; have K8 := True.intro)
              | (go_at_call 37; have hx_ := K6; clear hx_; refine (D2.out _).mono ?_; rintro e w_ ⟨rfl, rfl⟩; have K7 := True.intro)
              | (go_at_call 37; have hx_ := K5; clear hx_; refine (D1.out _).mono ?_; rintro e w_ ⟨rfl, rfl⟩; have K6 := True.intro)
              | (go_at_call 36; have hx_ := K4; clear hx_; refine (sSumL _ _ l _ _ u v HU.out HV.out HN.out HG.out (HI.out.below rfl T4.out)).mono ?_; rw [HX.out]; rintro e w5 ⟨rfl, hb5⟩; have T5 := Lib.hid (T4.out.trans (hb5.mono T4.out.size)); have c5 := keepC T5.out (by simp) C1; have K5 := True.intro)
              | (go_at_call 35; have hx_ := K3; clear hx_; refine (sOrder _ _ l _ _ HN.out HG.out (HI.out.below rfl T3.out)).mono ?_; rw [HP.out]; rintro e w4 ⟨rfl, hb4⟩; have T4 := Lib.hid (T3.out.trans (hb4.mono T3.out.size)); have c4 := keepC T4.out (by simp) C1; have K4 := True.intro)
              | (go_at_call 34; have hx_ := K2; clear hx_; refine (sIsSet _ _ _ _ _ _ HN.out hm (HI.out.below rfl T2.out)).mono ?_; rw [HS2.out]; rintro e w3 ⟨rfl, hb3⟩; have T3 := Lib.hid (T2.out.trans (hb3.mono T2.out.size)); have c3 := keepC T3.out (by simp) C1; have K3 := True.intro)
              | (go_at_call 34; have hx_ := K1; clear hx_; refine (sIsSet _ _ _ _ _ _ HN.out hm (HI.out.below rfl T1.out)).mono ?_; rw [HS.out]; rintro e w2 ⟨rfl, hb2⟩; have T2 := Lib.hid (T1.out.trans (hb2.mono T1.out.size)); have c2 := keepC T2.out (by simp) C1; have K2 := True.intro)
              | (go_at_call 26; refine (sPrm _ _ _ _ _ HN.out hm (HI.out.below rfl T0.out)).mono ?_; rw [HPM.out]; rintro e w1 ⟨rfl, hb1⟩; have T1 := Lib.hid (T0.out.trans (hb1.mono T0.out.size)); have c1 := keepC T1.out (by simp) C1; have K1 := True.intro))
            go_ret
            exact ⟨by first | rfl | (rw [HKK.out]; rfl), HB.out.trans (T6.out.mono (by simp))⟩
          | false =>
            cases B3 with
            | false =>
              rw [Bool.not_false] at hB3n
              go_enter Tryz.func7, Tryz.ntmps7
              go_wp2_with (first
                | (go_at_call 37; have hx_ := K11; clear hx_; refine (D2.out _).mono ?_; rintro e w_ ⟨rfl, rfl⟩; have K12 := True.intro)
                | (go_at_call 37; have hx_ := K10; clear hx_; refine (D1.out _).mono ?_; rintro e w_ ⟨rfl, rfl⟩; have K11 := True.intro)
                | (go_at_call 37; have hx_ := K9; clear hx_; refine (D3.out _).mono ?_; rintro e w_ ⟨rfl, rfl⟩; have K10 := True.intro)
                | (go_at_call 37; have hx_ := K8; clear hx_; refine (D3.out _).mono ?_; rintro e w_ ⟨rfl, rfl⟩; have K9 := True.intro)
                | (go_at_call 18; have hx_ := K7; clear hx_; refine (sCom _ _ _ _ _ _ _ HN.out hm (HI.out.below rfl T5.out)).mono ?_; rw [HCM.out.1, HCM.out.2]; rintro e w6 ⟨rfl, hb6⟩; have T6 := Lib.hid (T5.out.trans (hb6.mono T5.out.size)); have c6 := keepC T6.out (by simp) C1; have K8 := True.intro)
                | (go_at_call 37; have hx_ := K6; clear hx_; refine (D2.out _).mono ?_; rintro e w_ ⟨rfl, rfl⟩; have K7 := True.intro)
                | (go_at_call 37; have hx_ := K5; clear hx_; refine (D1.out _).mono ?_; rintro e w_ ⟨rfl, rfl⟩; have K6 := True.intro)
                | (go_at_call 36; have hx_ := K4; clear hx_; refine (sSumL _ _ l _ _ u v HU.out HV.out HN.out HG.out (HI.out.below rfl T4.out)).mono ?_; rw [HX.out]; rintro e w5 ⟨rfl, hb5⟩; have T5 := Lib.hid (T4.out.trans (hb5.mono T4.out.size)); have c5 := keepC T5.out (by simp) C1; have K5 := True.intro)
                | (go_at_call 35; have hx_ := K3; clear hx_; refine (sOrder _ _ l _ _ HN.out HG.out (HI.out.below rfl T3.out)).mono ?_; rw [HP.out]; rintro e w4 ⟨rfl, hb4⟩; have T4 := Lib.hid (T3.out.trans (hb4.mono T3.out.size)); have c4 := keepC T4.out (by simp) C1; have K4 := True.intro)
                | (go_at_call 34; have hx_ := K2; clear hx_; refine (sIsSet _ _ _ _ _ _ HN.out hm (HI.out.below rfl T2.out)).mono ?_; rw [HS2.out]; rintro e w3 ⟨rfl, hb3⟩; have T3 := Lib.hid (T2.out.trans (hb3.mono T2.out.size)); have c3 := keepC T3.out (by simp) C1; have K3 := True.intro)
                | (go_at_call 34; have hx_ := K1; clear hx_; refine (sIsSet _ _ _ _ _ _ HN.out hm (HI.out.below rfl T1.out)).mono ?_; rw [HS.out]; rintro e w2 ⟨rfl, hb2⟩; have T2 := Lib.hid (T1.out.trans (hb2.mono T1.out.size)); have c2 := keepC T2.out (by simp) C1; have K2 := True.intro)
                | (go_at_call 26; refine (sPrm _ _ _ _ _ HN.out hm (HI.out.below rfl T0.out)).mono ?_; rw [HPM.out]; rintro e w1 ⟨rfl, hb1⟩; have T1 := Lib.hid (T0.out.trans (hb1.mono T0.out.size)); have c1 := keepC T1.out (by simp) C1; have K1 := True.intro))
              go_ret
              exact ⟨by first | rfl | (rw [HKK.out]; rfl), HB.out.trans (T6.out.mono (by simp))⟩
            | true =>
              rw [Bool.not_true] at hB3n
              cases B4 with
              | true =>
                go_enter Tryz.func7, Tryz.ntmps7
                go_wp2_with (first
                  | (go_at_call 37; have hx_ := K11; clear hx_; refine (D2.out _).mono ?_; rintro e w_ ⟨rfl, rfl⟩; have K12 := True.intro)
                  | (go_at_call 37; have hx_ := K10; clear hx_; refine (D1.out _).mono ?_; rintro e w_ ⟨rfl, rfl⟩; have K11 := True.intro)
                  | (go_at_call 37; have hx_ := K9; clear hx_; refine (D3.out _).mono ?_; rintro e w_ ⟨rfl, rfl⟩; have K10 := True.intro)
                  | (go_at_call 37; have hx_ := K8; clear hx_; refine (D3.out _).mono ?_; rintro e w_ ⟨rfl, rfl⟩; have K9 := True.intro)
                  | (go_at_call 18; have hx_ := K7; clear hx_; refine (sCom _ _ _ _ _ _ _ HN.out hm (HI.out.below rfl T5.out)).mono ?_; rw [HCM.out.1, HCM.out.2]; rintro e w6 ⟨rfl, hb6⟩; have T6 := Lib.hid (T5.out.trans (hb6.mono T5.out.size)); have c6 := keepC T6.out (by simp) C1; have K8 := True.intro)
                  | (go_at_call 37; have hx_ := K6; clear hx_; refine (D2.out _).mono ?_; rintro e w_ ⟨rfl, rfl⟩; have K7 := True.intro)
                  | (go_at_call 37; have hx_ := K5; clear hx_; refine (D1.out _).mono ?_; rintro e w_ ⟨rfl, rfl⟩; have K6 := True.intro)
                  | (go_at_call 36; have hx_ := K4; clear hx_; refine (sSumL _ _ l _ _ u v HU.out HV.out HN.out HG.out (HI.out.below rfl T4.out)).mono ?_; rw [HX.out]; rintro e w5 ⟨rfl, hb5⟩; have T5 := Lib.hid (T4.out.trans (hb5.mono T4.out.size)); have c5 := keepC T5.out (by simp) C1; have K5 := True.intro)
                  | (go_at_call 35; have hx_ := K3; clear hx_; refine (sOrder _ _ l _ _ HN.out HG.out (HI.out.below rfl T3.out)).mono ?_; rw [HP.out]; rintro e w4 ⟨rfl, hb4⟩; have T4 := Lib.hid (T3.out.trans (hb4.mono T3.out.size)); have c4 := keepC T4.out (by simp) C1; have K4 := True.intro)
                  | (go_at_call 34; have hx_ := K2; clear hx_; refine (sIsSet _ _ _ _ _ _ HN.out hm (HI.out.below rfl T2.out)).mono ?_; rw [HS2.out]; rintro e w3 ⟨rfl, hb3⟩; have T3 := Lib.hid (T2.out.trans (hb3.mono T2.out.size)); have c3 := keepC T3.out (by simp) C1; have K3 := True.intro)
                  | (go_at_call 34; have hx_ := K1; clear hx_; refine (sIsSet _ _ _ _ _ _ HN.out hm (HI.out.below rfl T1.out)).mono ?_; rw [HS.out]; rintro e w2 ⟨rfl, hb2⟩; have T2 := Lib.hid (T1.out.trans (hb2.mono T1.out.size)); have c2 := keepC T2.out (by simp) C1; have K2 := True.intro)
                  | (go_at_call 26; refine (sPrm _ _ _ _ _ HN.out hm (HI.out.below rfl T0.out)).mono ?_; rw [HPM.out]; rintro e w1 ⟨rfl, hb1⟩; have T1 := Lib.hid (T0.out.trans (hb1.mono T0.out.size)); have c1 := keepC T1.out (by simp) C1; have K1 := True.intro))
                go_ret
                exact ⟨by first | rfl | (rw [HKK.out]; rfl), HB.out.trans (T6.out.mono (by simp))⟩
              | false =>
                cases B5 with
                | true =>
                  go_enter Tryz.func7, Tryz.ntmps7
                  go_wp2_with (first
                    | (go_at_call 37; have hx_ := K11; clear hx_; refine (D2.out _).mono ?_; rintro e w_ ⟨rfl, rfl⟩; have K12 := True.intro)
                    | (go_at_call 37; have hx_ := K10; clear hx_; refine (D1.out _).mono ?_; rintro e w_ ⟨rfl, rfl⟩; have K11 := True.intro)
                    | (go_at_call 37; have hx_ := K9; clear hx_; refine (D3.out _).mono ?_; rintro e w_ ⟨rfl, rfl⟩; have K10 := True.intro)
                    | (go_at_call 37; have hx_ := K8; clear hx_; refine (D3.out _).mono ?_; rintro e w_ ⟨rfl, rfl⟩; have K9 := True.intro)
                    | (go_at_call 18; have hx_ := K7; clear hx_; refine (sCom _ _ _ _ _ _ _ HN.out hm (HI.out.below rfl T5.out)).mono ?_; rw [HCM.out.1, HCM.out.2]; rintro e w6 ⟨rfl, hb6⟩; have T6 := Lib.hid (T5.out.trans (hb6.mono T5.out.size)); have c6 := keepC T6.out (by simp) C1; have K8 := True.intro)
                    | (go_at_call 37; have hx_ := K6; clear hx_; refine (D2.out _).mono ?_; rintro e w_ ⟨rfl, rfl⟩; have K7 := True.intro)
                    | (go_at_call 37; have hx_ := K5; clear hx_; refine (D1.out _).mono ?_; rintro e w_ ⟨rfl, rfl⟩; have K6 := True.intro)
                    | (go_at_call 36; have hx_ := K4; clear hx_; refine (sSumL _ _ l _ _ u v HU.out HV.out HN.out HG.out (HI.out.below rfl T4.out)).mono ?_; rw [HX.out]; rintro e w5 ⟨rfl, hb5⟩; have T5 := Lib.hid (T4.out.trans (hb5.mono T4.out.size)); have c5 := keepC T5.out (by simp) C1; have K5 := True.intro)
                    | (go_at_call 35; have hx_ := K3; clear hx_; refine (sOrder _ _ l _ _ HN.out HG.out (HI.out.below rfl T3.out)).mono ?_; rw [HP.out]; rintro e w4 ⟨rfl, hb4⟩; have T4 := Lib.hid (T3.out.trans (hb4.mono T3.out.size)); have c4 := keepC T4.out (by simp) C1; have K4 := True.intro)
                    | (go_at_call 34; have hx_ := K2; clear hx_; refine (sIsSet _ _ _ _ _ _ HN.out hm (HI.out.below rfl T2.out)).mono ?_; rw [HS2.out]; rintro e w3 ⟨rfl, hb3⟩; have T3 := Lib.hid (T2.out.trans (hb3.mono T2.out.size)); have c3 := keepC T3.out (by simp) C1; have K3 := True.intro)
                    | (go_at_call 34; have hx_ := K1; clear hx_; refine (sIsSet _ _ _ _ _ _ HN.out hm (HI.out.below rfl T1.out)).mono ?_; rw [HS.out]; rintro e w2 ⟨rfl, hb2⟩; have T2 := Lib.hid (T1.out.trans (hb2.mono T1.out.size)); have c2 := keepC T2.out (by simp) C1; have K2 := True.intro)
                    | (go_at_call 26; refine (sPrm _ _ _ _ _ HN.out hm (HI.out.below rfl T0.out)).mono ?_; rw [HPM.out]; rintro e w1 ⟨rfl, hb1⟩; have T1 := Lib.hid (T0.out.trans (hb1.mono T0.out.size)); have c1 := keepC T1.out (by simp) C1; have K1 := True.intro))
                  go_ret
                  exact ⟨by first | rfl | (rw [HKK.out]; rfl), HB.out.trans (T6.out.mono (by simp))⟩
                | false =>
                  cases CB with
                  | true =>
                    go_enter Tryz.func7, Tryz.ntmps7
                    go_wp2_with (first
                      | (go_at_call 37; have hx_ := K11; clear hx_; refine (D2.out _).mono ?_; rintro e w_ ⟨rfl, rfl⟩; have K12 := True.intro)
                      | (go_at_call 37; have hx_ := K10; clear hx_; refine (D1.out _).mono ?_; rintro e w_ ⟨rfl, rfl⟩; have K11 := True.intro)
                      | (go_at_call 37; have hx_ := K9; clear hx_; refine (D3.out _).mono ?_; rintro e w_ ⟨rfl, rfl⟩; have K10 := True.intro)
                      | (go_at_call 37; have hx_ := K8; clear hx_; refine (D3.out _).mono ?_; rintro e w_ ⟨rfl, rfl⟩; have K9 := True.intro)
                      | (go_at_call 18; have hx_ := K7; clear hx_; refine (sCom _ _ _ _ _ _ _ HN.out hm (HI.out.below rfl T5.out)).mono ?_; rw [HCM.out.1, HCM.out.2]; rintro e w6 ⟨rfl, hb6⟩; have T6 := Lib.hid (T5.out.trans (hb6.mono T5.out.size)); have c6 := keepC T6.out (by simp) C1; have K8 := True.intro)
                      | (go_at_call 37; have hx_ := K6; clear hx_; refine (D2.out _).mono ?_; rintro e w_ ⟨rfl, rfl⟩; have K7 := True.intro)
                      | (go_at_call 37; have hx_ := K5; clear hx_; refine (D1.out _).mono ?_; rintro e w_ ⟨rfl, rfl⟩; have K6 := True.intro)
                      | (go_at_call 36; have hx_ := K4; clear hx_; refine (sSumL _ _ l _ _ u v HU.out HV.out HN.out HG.out (HI.out.below rfl T4.out)).mono ?_; rw [HX.out]; rintro e w5 ⟨rfl, hb5⟩; have T5 := Lib.hid (T4.out.trans (hb5.mono T4.out.size)); have c5 := keepC T5.out (by simp) C1; have K5 := True.intro)
                      | (go_at_call 35; have hx_ := K3; clear hx_; refine (sOrder _ _ l _ _ HN.out HG.out (HI.out.below rfl T3.out)).mono ?_; rw [HP.out]; rintro e w4 ⟨rfl, hb4⟩; have T4 := Lib.hid (T3.out.trans (hb4.mono T3.out.size)); have c4 := keepC T4.out (by simp) C1; have K4 := True.intro)
                      | (go_at_call 34; have hx_ := K2; clear hx_; refine (sIsSet _ _ _ _ _ _ HN.out hm (HI.out.below rfl T2.out)).mono ?_; rw [HS2.out]; rintro e w3 ⟨rfl, hb3⟩; have T3 := Lib.hid (T2.out.trans (hb3.mono T2.out.size)); have c3 := keepC T3.out (by simp) C1; have K3 := True.intro)
                      | (go_at_call 34; have hx_ := K1; clear hx_; refine (sIsSet _ _ _ _ _ _ HN.out hm (HI.out.below rfl T1.out)).mono ?_; rw [HS.out]; rintro e w2 ⟨rfl, hb2⟩; have T2 := Lib.hid (T1.out.trans (hb2.mono T1.out.size)); have c2 := keepC T2.out (by simp) C1; have K2 := True.intro)
                      | (go_at_call 26; refine (sPrm _ _ _ _ _ HN.out hm (HI.out.below rfl T0.out)).mono ?_; rw [HPM.out]; rintro e w1 ⟨rfl, hb1⟩; have T1 := Lib.hid (T0.out.trans (hb1.mono T0.out.size)); have c1 := keepC T1.out (by simp) C1; have K1 := True.intro))
                    go_ret
                    exact ⟨by first | rfl | (rw [HKK.out]; rfl), HB.out.trans (T6.out.mono (by simp))⟩
                  | false =>
                    cases B7 with
                    | true =>
                      go_enter Tryz.func7, Tryz.ntmps7
                      go_wp2_with (first
                        | (go_at_call 37; have hx_ := K11; clear hx_; refine (D2.out _).mono ?_; rintro e w_ ⟨rfl, rfl⟩; have K12 := True.intro)
                        | (go_at_call 37; have hx_ := K10; clear hx_; refine (D1.out _).mono ?_; rintro e w_ ⟨rfl, rfl⟩; have K11 := True.intro)
                        | (go_at_call 37; have hx_ := K9; clear hx_; refine (D3.out _).mono ?_; rintro e w_ ⟨rfl, rfl⟩; have K10 := True.intro)
                        | (go_at_call 37; have hx_ := K8; clear hx_; refine (D3.out _).mono ?_; rintro e w_ ⟨rfl, rfl⟩; have K9 := True.intro)
                        | (go_at_call 18; have hx_ := K7; clear hx_; refine (sCom _ _ _ _ _ _ _ HN.out hm (HI.out.below rfl T5.out)).mono ?_; rw [HCM.out.1, HCM.out.2]; rintro e w6 ⟨rfl, hb6⟩; have T6 := Lib.hid (T5.out.trans (hb6.mono T5.out.size)); have c6 := keepC T6.out (by simp) C1; have K8 := True.intro)
                        | (go_at_call 37; have hx_ := K6; clear hx_; refine (D2.out _).mono ?_; rintro e w_ ⟨rfl, rfl⟩; have K7 := True.intro)
                        | (go_at_call 37; have hx_ := K5; clear hx_; refine (D1.out _).mono ?_; rintro e w_ ⟨rfl, rfl⟩; have K6 := True.intro)
                        | (go_at_call 36; have hx_ := K4; clear hx_; refine (sSumL _ _ l _ _ u v HU.out HV.out HN.out HG.out (HI.out.below rfl T4.out)).mono ?_; rw [HX.out]; rintro e w5 ⟨rfl, hb5⟩; have T5 := Lib.hid (T4.out.trans (hb5.mono T4.out.size)); have c5 := keepC T5.out (by simp) C1; have K5 := True.intro)
                        | (go_at_call 35; have hx_ := K3; clear hx_; refine (sOrder _ _ l _ _ HN.out HG.out (HI.out.below rfl T3.out)).mono ?_; rw [HP.out]; rintro e w4 ⟨rfl, hb4⟩; have T4 := Lib.hid (T3.out.trans (hb4.mono T3.out.size)); have c4 := keepC T4.out (by simp) C1; have K4 := True.intro)
                        | (go_at_call 34; have hx_ := K2; clear hx_; refine (sIsSet _ _ _ _ _ _ HN.out hm (HI.out.below rfl T2.out)).mono ?_; rw [HS2.out]; rintro e w3 ⟨rfl, hb3⟩; have T3 := Lib.hid (T2.out.trans (hb3.mono T2.out.size)); have c3 := keepC T3.out (by simp) C1; have K3 := True.intro)
                        | (go_at_call 34; have hx_ := K1; clear hx_; refine (sIsSet _ _ _ _ _ _ HN.out hm (HI.out.below rfl T1.out)).mono ?_; rw [HS.out]; rintro e w2 ⟨rfl, hb2⟩; have T2 := Lib.hid (T1.out.trans (hb2.mono T1.out.size)); have c2 := keepC T2.out (by simp) C1; have K2 := True.intro)
                        | (go_at_call 26; refine (sPrm _ _ _ _ _ HN.out hm (HI.out.below rfl T0.out)).mono ?_; rw [HPM.out]; rintro e w1 ⟨rfl, hb1⟩; have T1 := Lib.hid (T0.out.trans (hb1.mono T0.out.size)); have c1 := keepC T1.out (by simp) C1; have K1 := True.intro))
                      go_ret
                      exact ⟨by first | rfl | (rw [HKK.out]; rfl), HB.out.trans (T6.out.mono (by simp))⟩
                    | false =>
                      go_enter Tryz.func7, Tryz.ntmps7
                      go_wp2_with (first
                        | (go_at_call 37; have hx_ := K11; clear hx_; refine (D2.out _).mono ?_; rintro e w_ ⟨rfl, rfl⟩; have K12 := True.intro)
                        | (go_at_call 37; have hx_ := K10; clear hx_; refine (D1.out _).mono ?_; rintro e w_ ⟨rfl, rfl⟩; have K11 := True.intro)
                        | (go_at_call 37; have hx_ := K9; clear hx_; refine (D3.out _).mono ?_; rintro e w_ ⟨rfl, rfl⟩; have K10 := True.intro)
                        | (go_at_call 37; have hx_ := K8; clear hx_; refine (D3.out _).mono ?_; rintro e w_ ⟨rfl, rfl⟩; have K9 := True.intro)
                        | (go_at_call 18; have hx_ := K7; clear hx_; refine (sCom _ _ _ _ _ _ _ HN.out hm (HI.out.below rfl T5.out)).mono ?_; rw [HCM.out.1, HCM.out.2]; rintro e w6 ⟨rfl, hb6⟩; have T6 := Lib.hid (T5.out.trans (hb6.mono T5.out.size)); have c6 := keepC T6.out (by simp) C1; have K8 := True.intro)
                        | (go_at_call 37; have hx_ := K6; clear hx_; refine (D2.out _).mono ?_; rintro e w_ ⟨rfl, rfl⟩; have K7 := True.intro)
                        | (go_at_call 37; have hx_ := K5; clear hx_; refine (D1.out _).mono ?_; rintro e w_ ⟨rfl, rfl⟩; have K6 := True.intro)
                        | (go_at_call 36; have hx_ := K4; clear hx_; refine (sSumL _ _ l _ _ u v HU.out HV.out HN.out HG.out (HI.out.below rfl T4.out)).mono ?_; rw [HX.out]; rintro e w5 ⟨rfl, hb5⟩; have T5 := Lib.hid (T4.out.trans (hb5.mono T4.out.size)); have c5 := keepC T5.out (by simp) C1; have K5 := True.intro)
                        | (go_at_call 35; have hx_ := K3; clear hx_; refine (sOrder _ _ l _ _ HN.out HG.out (HI.out.below rfl T3.out)).mono ?_; rw [HP.out]; rintro e w4 ⟨rfl, hb4⟩; have T4 := Lib.hid (T3.out.trans (hb4.mono T3.out.size)); have c4 := keepC T4.out (by simp) C1; have K4 := True.intro)
                        | (go_at_call 34; have hx_ := K2; clear hx_; refine (sIsSet _ _ _ _ _ _ HN.out hm (HI.out.below rfl T2.out)).mono ?_; rw [HS2.out]; rintro e w3 ⟨rfl, hb3⟩; have T3 := Lib.hid (T2.out.trans (hb3.mono T2.out.size)); have c3 := keepC T3.out (by simp) C1; have K3 := True.intro)
                        | (go_at_call 34; have hx_ := K1; clear hx_; refine (sIsSet _ _ _ _ _ _ HN.out hm (HI.out.below rfl T1.out)).mono ?_; rw [HS.out]; rintro e w2 ⟨rfl, hb2⟩; have T2 := Lib.hid (T1.out.trans (hb2.mono T1.out.size)); have c2 := keepC T2.out (by simp) C1; have K2 := True.intro)
                        | (go_at_call 26; refine (sPrm _ _ _ _ _ HN.out hm (HI.out.below rfl T0.out)).mono ?_; rw [HPM.out]; rintro e w1 ⟨rfl, hb1⟩; have T1 := Lib.hid (T0.out.trans (hb1.mono T0.out.size)); have c1 := keepC T1.out (by simp) C1; have K1 := True.intro))
                      go_ret
                      exact ⟨by first | rfl | (rw [HKK.out]; rfl), HB.out.trans (T6.out.mono (by simp))⟩
        | false =>
          cases B3 with
          | false =>
            rw [Bool.not_false] at hB3n
            go_enter Tryz.func7, Tryz.ntmps7
            go_wp2_with (first
              | (go_at_call 37; have hx_ := K11; clear hx_; refine (D2.out _).mono ?_; rintro e w_ ⟨rfl, rfl⟩; have K12 := True.intro)
              | (go_at_call 37; have hx_ := K10; clear hx_; refine (D1.out _).mono ?_; rintro e w_ ⟨rfl, rfl⟩; have K11 := True.intro)
              | (go_at_call 37; have hx_ := K9; clear hx_; refine (D3.out _).mono ?_; rintro e w_ ⟨rfl, rfl⟩; have K10 := True.intro)
              | (go_at_call 37; have hx_ := K8; clear hx_; refine (D3.out _).mono ?_; rintro e w_ ⟨rfl, rfl⟩; have K9 := True.intro)
              | (go_at_call 18; have hx_ := K7; clear hx_; refine (sCom _ _ _ _ _ _ _ HN.out hm (HI.out.below rfl T5.out)).mono ?_; rw [HCM.out.1, HCM.out.2]; rintro e w6 ⟨rfl, hb6⟩; have T6 := Lib.hid (T5.out.trans (hb6.mono T5.out.size)); have c6 := keepC T6.out (by simp) C1; have K8 := True.intro)
              | (go_at_call 37; have hx_ := K6; clear hx_; refine (D2.out _).mono ?_; rintro e w_ ⟨rfl, rfl⟩; have K7 := True.intro)
              | (go_at_call 37; have hx_ := K5; clear hx_; refine (D1.out _).mono ?_; rintro e w_ ⟨rfl, rfl⟩; have K6 := True.intro)
              | (go_at_call 36; have hx_ := K4; clear hx_; refine (sSumL _ _ l _ _ u v HU.out HV.out HN.out HG.out (HI.out.below rfl T4.out)).mono ?_; rw [HX.out]; rintro e w5 ⟨rfl, hb5⟩; have T5 := Lib.hid (T4.out.trans (hb5.mono T4.out.size)); have c5 := keepC T5.out (by simp) C1; have K5 := True.intro)
              | (go_at_call 35; have hx_ := K3; clear hx_; refine (sOrder _ _ l _ _ HN.out HG.out (HI.out.below rfl T3.out)).mono ?_; rw [HP.out]; rintro e w4 ⟨rfl, hb4⟩; have T4 := Lib.hid (T3.out.trans (hb4.mono T3.out.size)); have c4 := keepC T4.out (by simp) C1; have K4 := True.intro)
              | (go_at_call 34; have hx_ := K2; clear hx_; refine (sIsSet _ _ _ _ _ _ HN.out hm (HI.out.below rfl T2.out)).mono ?_; rw [HS2.out]; rintro e w3 ⟨rfl, hb3⟩; have T3 := Lib.hid (T2.out.trans (hb3.mono T2.out.size)); have c3 := keepC T3.out (by simp) C1; have K3 := True.intro)
              | (go_at_call 34; have hx_ := K1; clear hx_; refine (sIsSet _ _ _ _ _ _ HN.out hm (HI.out.below rfl T1.out)).mono ?_; rw [HS.out]; rintro e w2 ⟨rfl, hb2⟩; have T2 := Lib.hid (T1.out.trans (hb2.mono T1.out.size)); have c2 := keepC T2.out (by simp) C1; have K2 := True.intro)
              | (go_at_call 26; refine (sPrm _ _ _ _ _ HN.out hm (HI.out.below rfl T0.out)).mono ?_; rw [HPM.out]; rintro e w1 ⟨rfl, hb1⟩; have T1 := Lib.hid (T0.out.trans (hb1.mono T0.out.size)); have c1 := keepC T1.out (by simp) C1; have K1 := True.intro))
            go_ret
            exact ⟨by first | rfl | (rw [HKK.out]; rfl), HB.out.trans (T6.out.mono (by simp))⟩
          | true =>
            rw [Bool.not_true] at hB3n
            cases B4 with
            | true =>
              go_enter Tryz.func7, Tryz.ntmps7
              go_wp2_with (first
                | (go_at_call 37; have hx_ := K11; clear hx_; refine (D2.out _).mono ?_; rintro e w_ ⟨rfl, rfl⟩; have K12 := True.intro)
                | (go_at_call 37; have hx_ := K10; clear hx_; refine (D1.out _).mono ?_; rintro e w_ ⟨rfl, rfl⟩; have K11 := True.intro)
                | (go_at_call 37; have hx_ := K9; clear hx_; refine (D3.out _).mono ?_; rintro e w_ ⟨rfl, rfl⟩; have K10 := True.intro)
                | (go_at_call 37; have hx_ := K8; clear hx_; refine (D3.out _).mono ?_; rintro e w_ ⟨rfl, rfl⟩; have K9 := True.intro)
                | (go_at_call 18; have hx_ := K7; clear hx_; refine (sCom _ _ _ _ _ _ _ HN.out hm (HI.out.below rfl T5.out)).mono ?_; rw [HCM.out.1, HCM.out.2]; rintro e w6 ⟨rfl, hb6⟩; have T6 := Lib.hid (T5.out.trans (hb6.mono T5.out.size)); have c6 := keepC T6.out (by simp) C1; have K8 := True.intro)
                | (go_at_call 37; have hx_ := K6; clear hx_; refine (D2.out _).mono ?_; rintro e w_ ⟨rfl, rfl⟩; have K7 := True.intro)
                | (go_at_call 37; have hx_ := K5; clear hx_; refine (D1.out _).mono ?_; rintro e w_ ⟨rfl, rfl⟩; have K6 := True.intro)
                | (go_at_call 36; have hx_ := K4; clear hx_; refine (sSumL _ _ l _ _ u v HU.out HV.out HN.out HG.out (HI.out.below rfl T4.out)).mono ?_; rw [HX.out]; rintro e w5 ⟨rfl, hb5⟩; have T5 := Lib.hid (T4.out.trans (hb5.mono T4.out.size)); have c5 := keepC T5.out (by simp) C1; have K5 := True.intro)
                | (go_at_call 35; have hx_ := K3; clear hx_; refine (sOrder _ _ l _ _ HN.out HG.out (HI.out.below rfl T3.out)).mono ?_; rw [HP.out]; rintro e w4 ⟨rfl, hb4⟩; have T4 := Lib.hid (T3.out.trans (hb4.mono T3.out.size)); have c4 := keepC T4.out (by simp) C1; have K4 := True.intro)
                | (go_at_call 34; have hx_ := K2; clear hx_; refine (sIsSet _ _ _ _ _ _ HN.out hm (HI.out.below rfl T2.out)).mono ?_; rw [HS2.out]; rintro e w3 ⟨rfl, hb3⟩; have T3 := Lib.hid (T2.out.trans (hb3.mono T2.out.size)); have c3 := keepC T3.out (by simp) C1; have K3 := True.intro)
                | (go_at_call 34; have hx_ := K1; clear hx_; refine (sIsSet _ _ _ _ _ _ HN.out hm (HI.out.below rfl T1.out)).mono ?_; rw [HS.out]; rintro e w2 ⟨rfl, hb2⟩; have T2 := Lib.hid (T1.out.trans (hb2.mono T1.out.size)); have c2 := keepC T2.out (by simp) C1; have K2 := True.intro)
                | (go_at_call 26; refine (sPrm _ _ _ _ _ HN.out hm (HI.out.below rfl T0.out)).mono ?_; rw [HPM.out]; rintro e w1 ⟨rfl, hb1⟩; have T1 := Lib.hid (T0.out.trans (hb1.mono T0.out.size)); have c1 := keepC T1.out (by simp) C1; have K1 := True.intro))
              go_ret
              exact ⟨by first | rfl | (rw [HKK.out]; rfl), HB.out.trans (T6.out.mono (by simp))⟩
            | false =>
              cases B5 with
              | true =>
                go_enter Tryz.func7, Tryz.ntmps7
                go_wp2_with (first
                  | (go_at_call 37; have hx_ := K11; clear hx_; refine (D2.out _).mono ?_; rintro e w_ ⟨rfl, rfl⟩; have K12 := True.intro)
                  | (go_at_call 37; have hx_ := K10; clear hx_; refine (D1.out _).mono ?_; rintro e w_ ⟨rfl, rfl⟩; have K11 := True.intro)
                  | (go_at_call 37; have hx_ := K9; clear hx_; refine (D3.out _).mono ?_; rintro e w_ ⟨rfl, rfl⟩; have K10 := True.intro)
                  | (go_at_call 37; have hx_ := K8; clear hx_; refine (D3.out _).mono ?_; rintro e w_ ⟨rfl, rfl⟩; have K9 := True.intro)
                  | (go_at_call 18; have hx_ := K7; clear hx_; refine (sCom _ _ _ _ _ _ _ HN.out hm (HI.out.below rfl T5.out)).mono ?_; rw [HCM.out.1, HCM.out.2]; rintro e w6 ⟨rfl, hb6⟩; have T6 := Lib.hid (T5.out.trans (hb6.mono T5.out.size)); have c6 := keepC T6.out (by simp) C1; have K8 := True.intro)
                  | (go_at_call 37; have hx_ := K6; clear hx_; refine (D2.out _).mono ?_; rintro e w_ ⟨rfl, rfl⟩; have K7 := True.intro)
                  | (go_at_call 37; have hx_ := K5; clear hx_; refine (D1.out _).mono ?_; rintro e w_ ⟨rfl, rfl⟩; have K6 := True.intro)
                  | (go_at_call 36; have hx_ := K4; clear hx_; refine (sSumL _ _ l _ _ u v HU.out HV.out HN.out HG.out (HI.out.below rfl T4.out)).mono ?_; rw [HX.out]; rintro e w5 ⟨rfl, hb5⟩; have T5 := Lib.hid (T4.out.trans (hb5.mono T4.out.size)); have c5 := keepC T5.out (by simp) C1; have K5 := True.intro)
                  | (go_at_call 35; have hx_ := K3; clear hx_; refine (sOrder _ _ l _ _ HN.out HG.out (HI.out.below rfl T3.out)).mono ?_; rw [HP.out]; rintro e w4 ⟨rfl, hb4⟩; have T4 := Lib.hid (T3.out.trans (hb4.mono T3.out.size)); have c4 := keepC T4.out (by simp) C1; have K4 := True.intro)
                  | (go_at_call 34; have hx_ := K2; clear hx_; refine (sIsSet _ _ _ _ _ _ HN.out hm (HI.out.below rfl T2.out)).mono ?_; rw [HS2.out]; rintro e w3 ⟨rfl, hb3⟩; have T3 := Lib.hid (T2.out.trans (hb3.mono T2.out.size)); have c3 := keepC T3.out (by simp) C1; have K3 := True.intro)
                  | (go_at_call 34; have hx_ := K1; clear hx_; refine (sIsSet _ _ _ _ _ _ HN.out hm (HI.out.below rfl T1.out)).mono ?_; rw [HS.out]; rintro e w2 ⟨rfl, hb2⟩; have T2 := Lib.hid (T1.out.trans (hb2.mono T1.out.size)); have c2 := keepC T2.out (by simp) C1; have K2 := True.intro)
                  | (go_at_call 26; refine (sPrm _ _ _ _ _ HN.out hm (HI.out.below rfl T0.out)).mono ?_; rw [HPM.out]; rintro e w1 ⟨rfl, hb1⟩; have T1 := Lib.hid (T0.out.trans (hb1.mono T0.out.size)); have c1 := keepC T1.out (by simp) C1; have K1 := True.intro))
                go_ret
                exact ⟨by first | rfl | (rw [HKK.out]; rfl), HB.out.trans (T6.out.mono (by simp))⟩
              | false =>
                cases CB with
                | true =>
                  go_enter Tryz.func7, Tryz.ntmps7
                  go_wp2_with (first
                    | (go_at_call 37; have hx_ := K11; clear hx_; refine (D2.out _).mono ?_; rintro e w_ ⟨rfl, rfl⟩; have K12 := True.intro)
                    | (go_at_call 37; have hx_ := K10; clear hx_; refine (D1.out _).mono ?_; rintro e w_ ⟨rfl, rfl⟩; have K11 := True.intro)
                    | (go_at_call 37; have hx_ := K9; clear hx_; refine (D3.out _).mono ?_; rintro e w_ ⟨rfl, rfl⟩; have K10 := True.intro)
                    | (go_at_call 37; have hx_ := K8; clear hx_; refine (D3.out _).mono ?_; rintro e w_ ⟨rfl, rfl⟩; have K9 := True.intro)
                    | (go_at_call 18; have hx_ := K7; clear hx_; refine (sCom _ _ _ _ _ _ _ HN.out hm (HI.out.below rfl T5.out)).mono ?_; rw [HCM.out.1, HCM.out.2]; rintro e w6 ⟨rfl, hb6⟩; have T6 := Lib.hid (T5.out.trans (hb6.mono T5.out.size)); have c6 := keepC T6.out (by simp) C1; have K8 := True.intro)
                    | (go_at_call 37; have hx_ := K6; clear hx_; refine (D2.out _).mono ?_; rintro e w_ ⟨rfl, rfl⟩; have K7 := True.intro)
                    | (go_at_call 37; have hx_ := K5; clear hx_; refine (D1.out _).mono ?_; rintro e w_ ⟨rfl, rfl⟩; have K6 := True.intro)
                    | (go_at_call 36; have hx_ := K4; clear hx_; refine (sSumL _ _ l _ _ u v HU.out HV.out HN.out HG.out (HI.out.below rfl T4.out)).mono ?_; rw [HX.out]; rintro e w5 ⟨rfl, hb5⟩; have T5 := Lib.hid (T4.out.trans (hb5.mono T4.out.size)); have c5 := keepC T5.out (by simp) C1; have K5 := True.intro)
                    | (go_at_call 35; have hx_ := K3; clear hx_; refine (sOrder _ _ l _ _ HN.out HG.out (HI.out.below rfl T3.out)).mono ?_; rw [HP.out]; rintro e w4 ⟨rfl, hb4⟩; have T4 := Lib.hid (T3.out.trans (hb4.mono T3.out.size)); have c4 := keepC T4.out (by simp) C1; have K4 := True.intro)
                    | (go_at_call 34; have hx_ := K2; clear hx_; refine (sIsSet _ _ _ _ _ _ HN.out hm (HI.out.below rfl T2.out)).mono ?_; rw [HS2.out]; rintro e w3 ⟨rfl, hb3⟩; have T3 := Lib.hid (T2.out.trans (hb3.mono T2.out.size)); have c3 := keepC T3.out (by simp) C1; have K3 := True.intro)
                    | (go_at_call 34; have hx_ := K1; clear hx_; refine (sIsSet _ _ _ _ _ _ HN.out hm (HI.out.below rfl T1.out)).mono ?_; rw [HS.out]; rintro e w2 ⟨rfl, hb2⟩; have T2 := Lib.hid (T1.out.trans (hb2.mono T1.out.size)); have c2 := keepC T2.out (by simp) C1; have K2 := True.intro)
                    | (go_at_call 26; refine (sPrm _ _ _ _ _ HN.out hm (HI.out.below rfl T0.out)).mono ?_; rw [HPM.out]; rintro e w1 ⟨rfl, hb1⟩; have T1 := Lib.hid (T0.out.trans (hb1.mono T0.out.size)); have c1 := keepC T1.out (by simp) C1; have K1 := True.intro))
                  go_ret
                  exact ⟨by first | rfl | (rw [HKK.out]; rfl), HB.out.trans (T6.out.mono (by simp))⟩
                | false =>
                  cases B7 with
                  | true =>
                    go_enter Tryz.func7, Tryz.ntmps7
                    go_wp2_with (first
                      | (go_at_call 37; have hx_ := K11; clear hx_; refine (D2.out _).mono ?_; rintro e w_ ⟨rfl, rfl⟩; have K12 := True.intro)
                      | (go_at_call 37; have hx_ := K10; clear hx_; refine (D1.out _).mono ?_; rintro e w_ ⟨rfl, rfl⟩; have K11 := True.intro)
                      | (go_at_call 37; have hx_ := K9; clear hx_; refine (D3.out _).mono ?_; rintro e w_ ⟨rfl, rfl⟩; have K10 := True.intro)
                      | (go_at_call 37; have hx_ := K8; clear hx_; refine (D3.out _).mono ?_; rintro e w_ ⟨rfl, rfl⟩; have K9 := True.intro)
                      | (go_at_call 18; have hx_ := K7; clear hx_; refine (sCom _ _ _ _ _ _ _ HN.out hm (HI.out.below rfl T5.out)).mono ?_; rw [HCM.out.1, HCM.out.2]; rintro e w6 ⟨rfl, hb6⟩; have T6 := Lib.hid (T5.out.trans (hb6.mono T5.out.size)); have c6 := keepC T6.out (by simp) C1; have K8 := True.intro)
                      | (go_at_call 37; have hx_ := K6; clear hx_; refine (D2.out _).mono ?_; rintro e w_ ⟨rfl, rfl⟩; have K7 := True.intro)
                      | (go_at_call 37; have hx_ := K5; clear hx_; refine (D1.out _).mono ?_; rintro e w_ ⟨rfl, rfl⟩; have K6 := True.intro)
                      | (go_at_call 36; have hx_ := K4; clear hx_; refine (sSumL _ _ l _ _ u v HU.out HV.out HN.out HG.out (HI.out.below rfl T4.out)).mono ?_; rw [HX.out]; rintro e w5 ⟨rfl, hb5⟩; have T5 := Lib.hid (T4.out.trans (hb5.mono T4.out.size)); have c5 := keepC T5.out (by simp) C1; have K5 := True.intro)
                      | (go_at_call 35; have hx_ := K3; clear hx_; refine (sOrder _ _ l _ _ HN.out HG.out (HI.out.below rfl T3.out)).mono ?_; rw [HP.out]; rintro e w4 ⟨rfl, hb4⟩; have T4 := Lib.hid (T3.out.trans (hb4.mono T3.out.size)); have c4 := keepC T4.out (by simp) C1; have K4 := True.intro)
                      | (go_at_call 34; have hx_ := K2; clear hx_; refine (sIsSet _ _ _ _ _ _ HN.out hm (HI.out.below rfl T2.out)).mono ?_; rw [HS2.out]; rintro e w3 ⟨rfl, hb3⟩; have T3 := Lib.hid (T2.out.trans (hb3.mono T2.out.size)); have c3 := keepC T3.out (by simp) C1; have K3 := True.intro)
                      | (go_at_call 34; have hx_ := K1; clear hx_; refine (sIsSet _ _ _ _ _ _ HN.out hm (HI.out.below rfl T1.out)).mono ?_; rw [HS.out]; rintro e w2 ⟨rfl, hb2⟩; have T2 := Lib.hid (T1.out.trans (hb2.mono T1.out.size)); have c2 := keepC T2.out (by simp) C1; have K2 := True.intro)
                      | (go_at_call 26; refine (sPrm _ _ _ _ _ HN.out hm (HI.out.below rfl T0.out)).mono ?_; rw [HPM.out]; rintro e w1 ⟨rfl, hb1⟩; have T1 := Lib.hid (T0.out.trans (hb1.mono T0.out.size)); have c1 := keepC T1.out (by simp) C1; have K1 := True.intro))
                    go_ret
                    exact ⟨by first | rfl | (rw [HKK.out]; rfl), HB.out.trans (T6.out.mono (by simp))⟩
                  | false =>
                    go_enter Tryz.func7, Tryz.ntmps7
                    go_wp2_with (first
                      | (go_at_call 37; have hx_ := K11; clear hx_; refine (D2.out _).mono ?_; rintro e w_ ⟨rfl, rfl⟩; have K12 := True.intro)
                      | (go_at_call 37; have hx_ := K10; clear hx_; refine (D1.out _).mono ?_; rintro e w_ ⟨rfl, rfl⟩; have K11 := True.intro)
                      | (go_at_call 37; have hx_ := K9; clear hx_; refine (D3.out _).mono ?_; rintro e w_ ⟨rfl, rfl⟩; have K10 := True.intro)
                      | (go_at_call 37; have hx_ := K8; clear hx_; refine (D3.out _).mono ?_; rintro e w_ ⟨rfl, rfl⟩; have K9 := True.intro)
                      | (go_at_call 18; have hx_ := K7; clear hx_; refine (sCom _ _ _ _ _ _ _ HN.out hm (HI.out.below rfl T5.out)).mono ?_; rw [HCM.out.1, HCM.out.2]; rintro e w6 ⟨rfl, hb6⟩; have T6 := Lib.hid (T5.out.trans (hb6.mono T5.out.size)); have c6 := keepC T6.out (by simp) C1; have K8 := True.intro)
                      | (go_at_call 37; have hx_ := K6; clear hx_; refine (D2.out _).mono ?_; rintro e w_ ⟨rfl, rfl⟩; have K7 := True.intro)
                      | (go_at_call 37; have hx_ := K5; clear hx_; refine (D1.out _).mono ?_; rintro e w_ ⟨rfl, rfl⟩; have K6 := True.intro)
                      | (go_at_call 36; have hx_ := K4; clear hx_; refine (sSumL _ _ l _ _ u v HU.out HV.out HN.out HG.out (HI.out.below rfl T4.out)).mono ?_; rw [HX.out]; rintro e w5 ⟨rfl, hb5⟩; have T5 := Lib.hid (T4.out.trans (hb5.mono T4.out.size)); have c5 := keepC T5.out (by simp) C1; have K5 := True.intro)
                      | (go_at_call 35; have hx_ := K3; clear hx_; refine (sOrder _ _ l _ _ HN.out HG.out (HI.out.below rfl T3.out)).mono ?_; rw [HP.out]; rintro e w4 ⟨rfl, hb4⟩; have T4 := Lib.hid (T3.out.trans (hb4.mono T3.out.size)); have c4 := keepC T4.out (by simp) C1; have K4 := True.intro)
                      | (go_at_call 34; have hx_ := K2; clear hx_; refine (sIsSet _ _ _ _ _ _ HN.out hm (HI.out.below rfl T2.out)).mono ?_; rw [HS2.out]; rintro e w3 ⟨rfl, hb3⟩; have T3 := Lib.hid (T2.out.trans (hb3.mono T2.out.size)); have c3 := keepC T3.out (by simp) C1; have K3 := True.intro)
                      | (go_at_call 34; have hx_ := K1; clear hx_; refine (sIsSet _ _ _ _ _ _ HN.out hm (HI.out.below rfl T1.out)).mono ?_; rw [HS.out]; rintro e w2 ⟨rfl, hb2⟩; have T2 := Lib.hid (T1.out.trans (hb2.mono T1.out.size)); have c2 := keepC T2.out (by simp) C1; have K2 := True.intro)
                      | (go_at_call 26; refine (sPrm _ _ _ _ _ HN.out hm (HI.out.below rfl T0.out)).mono ?_; rw [HPM.out]; rintro e w1 ⟨rfl, hb1⟩; have T1 := Lib.hid (T0.out.trans (hb1.mono T0.out.size)); have c1 := keepC T1.out (by simp) C1; have K1 := True.intro))
                    go_ret
                    exact ⟨by first | rfl | (rw [HKK.out]; rfl), HB.out.trans (T6.out.mono (by simp))⟩
end Go.Proofs.YtfkleihnafeoeaaGreatDoor
