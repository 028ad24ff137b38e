/- Merged: Bytes Draw Draw2 Draw3 GrpBase. -/
import Derived.Test.YtaacofbmbpkeoaaGreatDoorRows
import Derived.WalkKit
import Derived.LoopTactic
import Derived.IntWalk
import Derived.Below
import Derived.OneCell
import Derived.Lib.Hide
import Derived.Lib.BufferRead
import Derived.Lib.SmallJoins
import Derived.Laws.OwnMore
import Derived.Laws.BitsAllLaws
import Derived.Laws.BitsLemmas
import Derived.Laws.Bits128
import Derived.Laws.IdiomStrings
import Derived.Outline
import Derived.Deep.RegionLaw
import Derived.Deep.QuietTactic
import Derived.BigQuiet
import Derived.Deep.RegionWith
namespace Go.Proofs.YtaacofbmbpkeoaaGreatDoor
open Go.RowKit
def byteV (b : UInt8) : Value := .int .u8 (b.toNat : Int)
def bs (l : List UInt8) : ByteArray := ⟨l.toArray⟩
abbrev strV (l : List UInt8) : Value := .string (bs l)
theorem bs_append (a b : List UInt8) : bs a ++ bs b = bs (a ++ b) := by
  apply ByteArray.ext; simp [bs, ByteArray.data_append]
theorem bs_size (a : List UInt8) : (bs a).size = a.length := by simp [bs, ByteArray.size]
theorem byteInfo : (Tryz.prog.info? 5).map (fun i => (i.zero, i.size, i.bytes)) = some (some (.int .u8 0), 1, 1) := by kernel_rfl
theorem conv_own {w : World} {B : Nat} {v : Value} {l : List UInt8} (h : w.ownsRow B 5 1 v l.length (l.map byteV)) :
    (convert 22 9 v).run Tryz.prog w = .ok (strV l) w := by
  have hc := @World.ownsRow.cells _ _ _ _ _ _ _ h
  rcases h.2 with ⟨rfl, hn⟩ | ⟨g, cap, cur, rfl, hb, hg, hcap, hm, hs, ht⟩
  · obtain rfl : l = [] := List.length_eq_zero_iff.1 hn
    exact Lib.run_convert_nil_bytes w 22 9 5 0 Tryz.underlying22 Tryz.underlying5 Tryz.underlying9
  · refine run_convert_bytes_back w 22 9 5 ⟨g, 0, none⟩ cap l Tryz.underlying22 Tryz.underlying5 Tryz.underlying9 (fun j hj => ?_)
    exact hc (g := g) rfl j _ (by simp [byteV, List.getElem?_eq_getElem hj])
theorem conv_one (w : World) (u : UInt8) (x : Int) (h : (u.toNat : Int) = x) :
    (convert 22 9 (.slice (some ⟨w.heap.size, 0, none⟩) 1 1)).run Tryz.prog (w.alloc (.cells #[.int .u8 x] 5)) = .ok (strV [u]) (w.alloc (.cells #[.int .u8 x] 5)) := by
  subst h
  exact conv_own (l := [u]) (World.ownsRow_lit w #[byteV u] 1 (Nat.le_refl _) (by decide) rfl)
/-- append onto a row of the call's own, as one step of a region that draws its order. -/
theorem step_append_own {P : Program} {ops : Array Oper} {o : Oper} {a : Act} {w : World} {K : Act → World → Prop} {Q : Exit → Act → World → Prop} {E : Prop} (hg : o.guard = none) (s x : Operand) (t : TypeId)
    (ho : o.op = .call { callee := .builtin .append, args := #[s, x], argTypes := #[t, t] })
    (base : Nat) (e : TypeId) (i : TypeInfo) (z : Value) (size bytes : Nat) (ht : P.underlying t = some (.slice e)) (hi : P.info? e = some i) (hz : i.zero = some z)
    (hsize : i.size = size) (hby : i.bytes = bytes) (hzs : z.cells.size = size) (hsz : 0 < size)
    (v : Value) (n : Nat) (xs : List Value) (hs : a.eval s = v) (hown : w.ownsRow base e size v n xs)
    (ad : Addr) (m c : Nat) (news : List Value) (hx : a.eval x = .slice (some ad) m c) (hl : news.length = m * size) (hnews : ∀ j u, news[j]? = some u → w.cell? (ad.add j) = some u) (h1 : ∀ u ∈ news, u.oneCell' = true)
    (h63 : n + m ≤ maxLen) (hbytes : (n + m) * bytes ≤ 140737488355328) (hbase : base ≤ w.heap.size)
    (h : ∀ v' w', w'.ownsRow base e size v' (n + m) (xs ++ news) → w.grownBy w' v.ownBlock → K (a.put o.dst v') w') :
    if Region.wanted o (yielded ops a.tmps) = true then Oper.wp P o a w K Q else E := by
  have hw : Region.wanted o (yielded ops a.tmps) = true := by simp [Region.wanted, hg]
  rw [if_pos hw]
  exact wp_append_own w s x t ho base e i z size bytes ht hi hz hsize hby hzs hsz v n xs hs hown ad m c news hx hl hnews h1 h63 hbytes hbase (fun v' w' a b _ => h v' w' a b)
theorem news2 (w : World) (x y : Value) (T : TypeId) : ∀ (j : Nat) (u : Value), [x, y][j]? = some u → (w.alloc (.cells #[x, y] T)).cell? ((⟨w.heap.size, 0, none⟩ : Addr).add j) = some u := by
  intro j u hu
  match j, hu with
  | 0, hu => simp at hu; subst hu; simp [Addr.add]
  | 1, hu => simp at hu; subst hu; simp [Addr.add]
theorem one2 (x y : UInt8) : ∀ u ∈ [byteV x, byteV y], u.oneCell' = true := by
  intro u hu; simp at hu; rcases hu with rfl | rfl <;> rfl
theorem u8_of (x : Int) (h0 : 0 ≤ x) (h1 : x < 256) : ∃ u : UInt8, (u.toNat : Int) = x := ⟨UInt8.ofNat x.toNat, by
  have : x.toNat < 256 := by omega
  simp [UInt8.toNat_ofNat', Nat.mod_eq_of_lt this]; omega⟩
end Go.Proofs.YtaacofbmbpkeoaaGreatDoor

namespace Go.Proofs.YtaacofbmbpkeoaaGreatDoor
open Go.RowKit
/-- The cursor lies in block C. -/
def CurAt (w : World) (C : Nat) (a : Option Addr) (len cap : Nat) : Prop :=
  ∃ i h : Int, 0 ≤ i ∧ i ≤ len ∧ w.heap[C]? = some (.cells #[.slice a len cap, .int .i64 i, .int .i64 h] 90 (0, 0))
/-- The code's bytes lie in a block that is not the cursor's. -/
def DataAt (w : World) (C : Nat) (a : Option Addr) (len : Nat) : Prop :=
  len = 0 ∨ ∃ b off, a = some ⟨b, off, none⟩ ∧ b ≠ C ∧ ∀ i, i < len → ∃ x : Nat, x < 256 ∧ w.cell? ⟨b, off + i, none⟩ = some (.int .u8 x)
theorem grownC_trans {a b c : World} {row : Option Nat} (h : a.grownBy b row) (k : b.grownBy c row) : a.grownBy c row :=
  ⟨k.os.trans h.os, k.tape.trans h.tape, k.output.trans h.output, Nat.le_trans h.size k.size, fun i hi hr => (k.block i (Nat.lt_of_lt_of_le hi h.size) hr).trans (h.block i hi hr)⟩
theorem grownC_drew {a w : World} {row : Option Nat} (h : a.grownBy w row) (n : Nat) : a.grownBy (w.drewN n) row := ⟨h.os, h.tape, h.output, h.size, h.block⟩
theorem grown_set {a w : World} {C : Nat} (h : a.grownBy w (some C)) (j : Nat) (v : Value) : a.grownBy (w.setCell ⟨C, j, none⟩ v) (some C) :=
  grownC_trans h ⟨rfl, rfl, rfl, by simp, fun k _ hk => heap_setCell_other w ⟨C, j, none⟩ k v (fun e => hk (by simp [e]))⟩
theorem DataAt.grown {w w' : World} {C : Nat} {a : Option Addr} {len : Nat} (h : DataAt w C a len) (hg : w.grownBy w' (some C)) : DataAt w' C a len := by
  rcases h with h | ⟨b, off, ha, hb, hc⟩
  · exact Or.inl h
  · refine Or.inr ⟨b, off, ha, hb, fun i hi => ?_⟩
    obtain ⟨x, hx, hcell⟩ := hc i hi
    exact ⟨x, hx, hg.cell hcell (by simpa using hb)⟩
theorem i64_and255 (n : Int) : bits .and .i64 n 255 = n % 256 := by
  have h255 : (BitVec.ofInt 64 255).toNat = 2 ^ 8 - 1 := by decide
  have key : (BitVec.ofInt 64 n &&& BitVec.ofInt 64 255).toNat = (n % ((2 ^ 64 : Nat) : Int)).toNat % 2 ^ 8 := by
    rw [BitVec.toNat_and, BitVec.toNat_ofInt, h255, Nat.and_two_pow_sub_one_eq_mod]
  show IntKind.i64.wrap ((BitVec.ofInt 64 n &&& BitVec.ofInt 64 255).toNat : Nat) = n % 256
  rw [key, IntKind.wrap_i64]
  omega
theorem cur_cell {w : World} {C : Nat} {x y z : Value} {T : TypeId} (h : w.heap[C]? = some (.cells #[x, y, z] T (0, 0))) :
    w.cell? ⟨C, 0, none⟩ = some x ∧ w.cell? ⟨C, 1, none⟩ = some y ∧ w.cell? ⟨C, 2, none⟩ = some z ∧ (∀ j, w.frozen? ⟨C, j, none⟩ = false) :=
  ⟨by simp [World.cell?, h], by simp [World.cell?, h], by simp [World.cell?, h], fun j => by simp [World.frozen?, h]⟩
/-- What a drawing step leaves. -/
def Drawn (w : World) (C : Nat) (a : Option Addr) (len cap : Nat) (lo hi : Int) (e : Ending) (w' : World) : Prop :=
  ∃ x : Int, e = .returned (.int .i64 x) ∧ lo ≤ x ∧ x ≤ hi ∧ CurAt w' C a len cap ∧ w.grownBy w' (some C)
set_option maxHeartbeats 2000000 in
set_option maxRecDepth 1000000 in
theorem byte_end (w : World) (C : Nat) (a : Option Addr) (len cap : Nat) (i h : Int) (hi0 : 0 ≤ i) (hil : i ≤ len) (hge : (len : Int) ≤ i)
    (hb : w.heap[C]? = some (.cells #[.slice a len cap, .int .i64 i, .int .i64 h] 90 (0, 0))) :
    Calls Tryz.prog 106 #[.pointer (some ⟨C, 0, none⟩)] w (Drawn w C a len cap 0 255) := by
  obtain ⟨c0, c1, c2, hf⟩ := cur_cell hb
  have f2 := hf 2
  clear hf
  have HB := Lib.hid hb
  clear hb
  go_enter Tryz.func106, Tryz.ntmps106
  go_wp2
  generalize wrap64 (wrap64 (h * 6364136223846793005) + 1442695040888963407) = h2
  have hb2 : (w.setCell ⟨C, 2, none⟩ (.int .i64 h2)).heap[C]? = some (.cells #[.slice a len cap, .int .i64 i, .int .i64 h2] 90 (0, 0)) := by
    rw [heap_setCell_same w C 2 _ _ (.int .i64 h2) HB.out]; rfl
  have hg2 := grown_set (World.grownBy.refl w (some C)) 2 (.int .i64 h2)
  generalize w.setCell ⟨C, 2, none⟩ (.int .i64 h2) = w2 at hb2 hg2 ⊢
  clear c0 c1 c2 f2 HB
  obtain ⟨c0, c1, c2, hf⟩ := cur_cell hb2
  clear hf
  have HB2 := Lib.hid hb2
  clear hb2
  go_quiet (fail)
  go_wp2
  go_quiet (fail)
  go_wp2
  go_ret
  exact ⟨_, rfl, by rw [i64_and255]; omega, by rw [i64_and255]; omega, ⟨i, h2, hi0, hil, HB2.out⟩, grownC_drew (grownC_drew hg2 _) _⟩
set_option maxHeartbeats 2000000 in
set_option maxRecDepth 1000000 in
theorem byte_mid (w : World) (C : Nat) (b off len cap q x : Nat) (h : Int) (hlen : len ≤ 1048576) (hq : q < len) (hx : x < 256) (hne : b ≠ C)
    (hd : w.cell? ⟨b, off + q, none⟩ = some (.int .u8 x))
    (hb : w.heap[C]? = some (.cells #[.slice (some ⟨b, off, none⟩) len cap, .int .i64 q, .int .i64 h] 90 (0, 0))) :
    Calls Tryz.prog 106 #[.pointer (some ⟨C, 0, none⟩)] w (Drawn w C (some ⟨b, off, none⟩) len cap 0 255) := by
  obtain ⟨c0, c1, c2, hf⟩ := cur_cell hb
  have f2 := hf 2
  clear hf
  have HB := Lib.hid hb
  have HD := Lib.hid hd
  have HNE := Lib.hid hne
  clear hb hd hne
  go_enter Tryz.func106, Tryz.ntmps106
  go_wp2
  generalize wrap64 (wrap64 (h * 6364136223846793005) + 1442695040888963407) = h2
  have hb2 : (w.setCell ⟨C, 2, none⟩ (.int .i64 h2)).heap[C]? = some (.cells #[.slice (some ⟨b, off, none⟩) len cap, .int .i64 q, .int .i64 h2] 90 (0, 0)) := by
    rw [heap_setCell_same w C 2 _ _ (.int .i64 h2) HB.out]; rfl
  have hg2 := grown_set (World.grownBy.refl w (some C)) 2 (.int .i64 h2)
  generalize w.setCell ⟨C, 2, none⟩ (.int .i64 h2) = w2 at hb2 hg2 ⊢
  clear c0 c1 c2 f2 HB
  obtain ⟨c0, c1, c2, hf⟩ := cur_cell hb2
  have f1 := hf 1
  clear hf
  have hd2 : w2.cell? ⟨b, off + q, none⟩ = some (.int .u8 x) := hg2.cell HD.out (by simpa using HNE.out)
  have HB2 := Lib.hid hb2
  clear hb2
  go_quiet (fail)
  go_wp2
  go_quiet (fail)
  go_wp2
  go_quiet (fail)
  go_wp2
  go_ret
  exact ⟨_, rfl, by rw [i64_and255]; omega, by rw [i64_and255]; omega, ⟨(q : Int) + 1, h2, by omega, by omega, heap_setCell_same _ C 1 _ _ _ HB2.out⟩, grown_set (grownC_drew hg2 _) 1 _⟩
theorem byte_any (w : World) (C : Nat) (a : Option Addr) (len cap : Nat) (hlen : len ≤ 1048576) (hc : CurAt w C a len cap) (hd : DataAt w C a len) :
    Calls Tryz.prog 106 #[.pointer (some ⟨C, 0, none⟩)] w (Drawn w C a len cap 0 255) := by
  obtain ⟨i, h, hi0, hil, hb⟩ := hc
  by_cases hge : (len : Int) ≤ i
  · exact byte_end w C a len cap i h hi0 hil hge hb
  · obtain ⟨q, rfl⟩ : ∃ q : Nat, i = q := ⟨i.toNat, by omega⟩
    rcases hd with h0 | ⟨b, off, rfl, hne, hcell⟩
    · omega
    · obtain ⟨x, hx, hcx⟩ := hcell q (by omega)
      exact byte_mid w C b off len cap q x h hlen (by omega) hx hne hcx hb
set_option maxHeartbeats 2000000 in
set_option maxRecDepth 1000000 in
theorem below_small (w : World) (C : Nat) (a : Option Addr) (len cap : Nat) (n : Int) (hlen : len ≤ 1048576) (hc : CurAt w C a len cap) (hd : DataAt w C a len) (h0 : 0 < n) (h1 : n ≤ 256) :
    Calls Tryz.prog 90 #[.pointer (some ⟨C, 0, none⟩), .int .i64 n] w (Drawn w C a len cap 0 (n - 1)) := by
  have F := Lib.hid (byte_any w C a len cap hlen hc hd)
  clear hc hd
  go_enter Tryz.func90, Tryz.ntmps90
  go_wp2_with fail
  refine F.out.mono ?_
  rintro e w1 ⟨x, rfl, hx0, hx1, hcur, hg⟩
  have HC := Lib.hid hcur
  have HG := Lib.hid hg
  clear hcur hg
  go_wp2
  go_ret
  exact ⟨_, rfl, Int.emod_nonneg _ (by omega), by have := Int.emod_lt_of_pos x h0; omega, HC.out, HG.out⟩
set_option maxHeartbeats 2000000 in
set_option maxRecDepth 1000000 in
theorem below_big (w : World) (C : Nat) (a : Option Addr) (len cap : Nat) (n : Int) (hlen : len ≤ 1048576) (hc : CurAt w C a len cap) (hd : DataAt w C a len) (h0 : 256 < n) :
    Calls Tryz.prog 90 #[.pointer (some ⟨C, 0, none⟩), .int .i64 n] w (Drawn w C a len cap 0 (n - 1)) := by
  have F := Lib.hid (byte_any w C a len cap hlen hc hd)
  have HD := Lib.hid hd
  clear hc hd
  go_enter Tryz.func90, Tryz.ntmps90
  go_wp2_with fail
  refine F.out.mono ?_
  rintro e w1 ⟨x1, rfl, hx0, hx1, hcur, hg⟩
  have F1 := Lib.hid (byte_any w1 C a len cap hlen hcur (HD.out.grown hg))
  have HG := Lib.hid hg
  clear hcur hg
  go_wp2_with fail
  refine F1.out.mono ?_
  rintro e w2 ⟨x2, rfl, hy0, hy1, hcur, hg⟩
  have HG2 := Lib.hid (grownC_trans HG.out hg)
  have F2 := Lib.hid (byte_any w2 C a len cap hlen hcur (HD.out.grown HG2.out))
  clear hcur hg
  go_wp2_with fail
  refine F2.out.mono ?_
  rintro e w3 ⟨x3, rfl, hz0, hz1, hcur, hg⟩
  have HG3 := Lib.hid (grownC_trans HG2.out hg)
  have F3 := Lib.hid (byte_any w3 C a len cap hlen hcur (HD.out.grown HG3.out))
  clear hcur hg
  go_wp2_with fail
  refine F3.out.mono ?_
  rintro e w4 ⟨x4, rfl, hu0, hu1, hcur, hg⟩
  have HG4 := Lib.hid (grownC_trans HG3.out hg)
  have HC := Lib.hid hcur
  clear hcur hg
  go_wp2
  go_ret
  exact ⟨_, rfl, Int.emod_nonneg _ (by omega), by have := Int.emod_lt_of_pos (x1 * 16777216 + x2 * 65536 + x3 * 256 + x4) (show 0 < n by omega); omega, HC.out, HG4.out⟩
theorem below_any (w : World) (C : Nat) (a : Option Addr) (len cap : Nat) (n : Int) (hlen : len ≤ 1048576) (hc : CurAt w C a len cap) (hd : DataAt w C a len) (h0 : 0 < n) :
    Calls Tryz.prog 90 #[.pointer (some ⟨C, 0, none⟩), .int .i64 n] w (Drawn w C a len cap 0 (n - 1)) := by
  by_cases h : n ≤ 256
  · exact below_small w C a len cap n hlen hc hd h0 h
  · exact below_big w C a len cap n hlen hc hd (by omega)
end Go.Proofs.YtaacofbmbpkeoaaGreatDoor

namespace Go.Proofs.YtaacofbmbpkeoaaGreatDoor
open Go.RowKit
/-- The code's bytes as they came in. -/
def CodeIn (w : World) (a : Option Addr) (len : Nat) : Prop := len = 0 ∨ ∃ b off, a = some ⟨b, off, none⟩ ∧ b < w.heap.size ∧ ∀ i, i < len → ∃ x : Nat, x < 256 ∧ w.cell? ⟨b, off + i, none⟩ = some (.int .u8 x)
theorem CodeIn.below {w w' : World} {a : Option Addr} {len : Nat} (h : CodeIn w a len) (hb : Below w.heap.size w w') : CodeIn w' a len := by
  rcases h with h | ⟨b, off, ha, hlt, hc⟩
  · exact Or.inl h
  · exact Or.inr ⟨b, off, ha, Nat.lt_of_lt_of_le hlt hb.size, fun i hi => by
      obtain ⟨x, hx, hcell⟩ := hc i hi
      exact ⟨x, hx, (hb.cell (p := ⟨b, off + i, none⟩) hlt).trans hcell⟩⟩
/-- The new cursor. -/
def NewCur (w : World) (a : Option Addr) (len cap : Nat) (e : Ending) (w' : World) : Prop :=
  e = .returned (.pointer (some ⟨w.heap.size, 0, none⟩)) ∧ CurAt w' w.heap.size a len cap ∧ DataAt w' w.heap.size a len ∧ Below w.heap.size w w'
theorem new_end (w : World) (a : Option Addr) (len cap : Nat) (h : Int) (hd : CodeIn w a len) :
    CurAt (w.alloc (.cells #[.slice a len cap, .int .i64 0, .int .i64 h] 90)) w.heap.size a len cap ∧ DataAt (w.alloc (.cells #[.slice a len cap, .int .i64 0, .int .i64 h] 90)) w.heap.size a len := by
  refine ⟨⟨0, h, by omega, by omega, heap_alloc_new _ _⟩, ?_⟩
  rcases hd with hd | ⟨b, off, ha, hlt, hc⟩
  · exact Or.inl hd
  · exact Or.inr ⟨b, off, ha, by omega, fun i hi => by
      obtain ⟨x, hx, hcell⟩ := hc i hi
      exact ⟨x, hx, (World.cell?_alloc_past _ _ _ hlt).trans hcell⟩⟩
set_option maxHeartbeats 2000000 in
set_option maxRecDepth 1000000 in
theorem new_any (w : World) (a : Option Addr) (len cap : Nat) (hlen : len ≤ 1048576) (hd : CodeIn w a len) :
    Calls Tryz.prog 63 #[.slice a len cap] w (NewCur w a len cap) := by
  have HD := Lib.hid hd
  clear hd
  go_enter Tryz.func63, Tryz.ntmps63
  go_wp2
  go_loop [3, 4] (fun h i => ∃ (k : Nat) (hh : Int), k ≤ len ∧ i = .int .i64 k ∧ h = .int .i64 hh) (fun _ i => len - (intOf i).toNat)
  case atStart => exact ⟨0, _, Nat.zero_le _, rfl, rfl⟩
  case round =>
    obtain ⟨k, hh, hk, rfl, rfl⟩ := hrel
    by_cases hlt : k < len ∧ k < 4000
    · obtain ⟨hl, h4⟩ := hlt
      rcases HD.out with h0 | ⟨b, off, ha, hbl, hc⟩
      · omega
      · subst ha
        obtain ⟨x, hx, hcell⟩ := hc k hl
        clear hc
        go_wp2
        go_round
        case rel => exact ⟨k + 1, _, by omega, by go_num, rfl⟩
        case measure => simp [intOf]; omega
    · by_cases hl : k < len
      · have h4 : 4000 ≤ k := by omega
        clear hlt
        go_wp2
        go_ret
        exact ⟨rfl, (new_end w a len cap hh HD.out).1, (new_end w a len cap hh HD.out).2, (Below.refl _ _).alloc (Nat.le_refl _) _⟩
      · have hl' : len ≤ k := by omega
        clear hlt hl
        go_wp2
        go_ret
        exact ⟨rfl, (new_end w a len cap hh HD.out).1, (new_end w a len cap hh HD.out).2, (Below.refl _ _).alloc (Nat.le_refl _) _⟩
/-- A drawn text. -/
def DrawnText (w : World) (C : Nat) (a : Option Addr) (len cap most : Nat) (e : Ending) (w' : World) : Prop :=
  ∃ t : List UInt8, e = .returned (strV t) ∧ t.length ≤ most ∧ CurAt w' C a len cap ∧ w.grownBy w' (some C)
theorem CurAt.lt {w : World} {C : Nat} {a : Option Addr} {len cap : Nat} (h : CurAt w C a len cap) : C < w.heap.size := by
  obtain ⟨i, h, _, _, hb⟩ := h
  exact (Array.getElem?_eq_some_iff.1 hb).1
theorem CurAt.other {w w' : World} {C : Nat} {a : Option Addr} {len cap : Nat} (h : CurAt w C a len cap) (hb : w'.heap[C]? = w.heap[C]?) : CurAt w' C a len cap := by
  obtain ⟨i, h, h0, h1, hc⟩ := h
  exact ⟨i, h, h0, h1, hb.trans hc⟩
/-- A row of the call's own beside the cursor: it grows by one, the cursor stands. -/
theorem text_step {w wr w1 w2 : World} {C B : Nat} {a : Option Addr} {len cap : Nat} {v : Value} {o : Obj} {d : List UInt8} (hB : w.heap.size = B) (hC : C < B) (hown : w1.ownsRow B 5 1 v d.length (d.map byteV))
    (hg : w.grownBy wr (some C)) (hg1 : wr.grownBy w1 (some C)) (hcur : CurAt w1 C a len cap) (hgrow : (w1.alloc o).grownBy w2 v.ownBlock) : CurAt w2 C a len cap ∧ w.grownBy w2 (some C) := by
  have hg01 := grownC_trans hg hg1
  have hne : ∀ k, k < B → some k ≠ v.ownBlock := fun k hk e => by have := (hown.lt k e.symm).1; omega
  refine ⟨hcur.other ?_, ⟨hgrow.os.trans hg01.os, hgrow.tape.trans hg01.tape, hgrow.output.trans hg01.output, ?_, fun k hk hkc => ?_⟩⟩
  · rw [hgrow.block C (by have := hcur.lt; simp; omega) (hne C hC)]
    exact heap_alloc_old w1 o hcur.lt
  · have := hgrow.size; have := hg01.size; simp at *; omega
  · have hk1 : k < w1.heap.size := Nat.lt_of_lt_of_le hk hg01.size
    rw [hgrow.block k (by simp; omega) (hne k (by omega)), heap_alloc_old w1 o hk1]
    exact hg01.block k hk hkc
end Go.Proofs.YtaacofbmbpkeoaaGreatDoor

namespace Go.Proofs.YtaacofbmbpkeoaaGreatDoor
open Go.RowKit
/-- Any int. -/
abbrev AnyInt (w : World) (C : Nat) (a : Option Addr) (len cap : Nat) (e : Ending) (w' : World) : Prop := Drawn w C a len cap (-9223372036854775808) 9223372036854775807 e w'
set_option maxHeartbeats 2000000 in
set_option maxRecDepth 1000000 in
theorem pick_any (w : World) (C : Nat) (a : Option Addr) (len cap L m cp : Nat) (hlen : len ≤ 1048576) (hc : CurAt w C a len cap) (hd : DataAt w C a len) (hm0 : 0 < m) (hm : m ≤ 1000) (hne : L ≠ C)
    (hcells : ∀ i, i < m → ∃ x : Int, -9223372036854775808 ≤ x ∧ x ≤ 9223372036854775807 ∧ w.cell? ⟨L, i, none⟩ = some (.int .i64 x)) :
    Calls Tryz.prog 91 #[.pointer (some ⟨C, 0, none⟩), .slice (some ⟨L, 0, none⟩) m cp] w (AnyInt w C a len cap) := by
  have F := Lib.hid (below_any w C a len cap m hlen hc hd (by omega))
  have HCE := Lib.hid hcells
  have HNE := Lib.hid hne
  clear hc hd hcells hne
  go_enter Tryz.func91, Tryz.ntmps91
  go_wp2_with fail
  refine F.out.mono ?_
  rintro e w1 ⟨r, rfl, hr0, hr1, hcur, hg⟩
  obtain ⟨q, rfl⟩ : ∃ q : Nat, r = q := ⟨r.toNat, by omega⟩
  obtain ⟨x, hx0, hx1, hcell⟩ := HCE.out q (by omega)
  have hcell1 : w1.cell? ⟨L, q, none⟩ = some (.int .i64 x) := hg.cell hcell (by simpa using HNE.out)
  have hqm : q < m := by omega
  have HC := Lib.hid hcur
  have HG := Lib.hid hg
  clear hcur hg F hcell
  go_wp2
  go_ret
  exact ⟨_, rfl, hx0, hx1, HC.out, HG.out⟩
def picks : List Int := [-1, 0, 127, 128, 255, 256, 16383, 16384, 65535, 65536, 562949953421311, 562949953421312, 999999999, 1000000000, -999999999, 9223372036854775807, -9223372036854775808]
theorem picks_fit (i : Nat) (h : i < 17) : ∃ x : Int, -9223372036854775808 ≤ x ∧ x ≤ 9223372036854775807 ∧ (picks.map (Value.int .i64)).toArray[i]? = some (.int .i64 x) := by
  have : i = 0 ∨ i = 1 ∨ i = 2 ∨ i = 3 ∨ i = 4 ∨ i = 5 ∨ i = 6 ∨ i = 7 ∨ i = 8 ∨ i = 9 ∨ i = 10 ∨ i = 11 ∨ i = 12 ∨ i = 13 ∨ i = 14 ∨ i = 15 ∨ i = 16 := by omega
  rcases this with rfl | rfl | rfl | rfl | rfl | rfl | rfl | rfl | rfl | rfl | rfl | rfl | rfl | rfl | rfl | rfl | rfl <;> exact ⟨_, by decide, by decide, rfl⟩
theorem mul_fit (x y : Int) (hx0 : 0 ≤ x) (hx1 : x ≤ 999999999) (hy0 : 0 ≤ y) (hy1 : y ≤ 999999999) : 0 ≤ x * y ∧ x * y ≤ 999999998000000001 := by
  refine ⟨Int.mul_nonneg hx0 hy0, ?_⟩
  have h1 : x * y ≤ 999999999 * y := Int.mul_le_mul_of_nonneg_right hx1 hy0
  omega
theorem below_of {w w1 w2 : World} (hb : Below w.heap.size w w1) (hg : w1.grownBy w2 (some w.heap.size)) : Below w.heap.size w w2 :=
  hb.grown hg hb.size (fun k hk => by cases hk; exact Nat.le_refl _)
end Go.Proofs.YtaacofbmbpkeoaaGreatDoor

namespace Go.Proofs.YtaacofbmbpkeoaaGreatDoor
open Go.RowKit
set_option maxRecDepth 1000000
abbrev iV (n : Int) : Value := .int .i64 n
theorem intInfo : (Tryz.prog.info? 3).map (fun i => (i.zero, i.size, i.bytes)) = some (some (.int .i64 0), 1, 8) := by kernel_rfl
/-- A row of ints that can be read: none, or a run of cells of a block that is there. -/
def Ints (w : World) (a : Option Addr) (l : List Int) : Prop :=
  l = [] ∨ ∃ b off, a = some ⟨b, off, none⟩ ∧ b < w.heap.size ∧ ∀ i, i < l.length → w.cell? ⟨b, off + i, none⟩ = some (.int .i64 (l.getD i 0))
theorem Ints.below {w w' : World} {a : Option Addr} {l : List Int} (h : Ints w a l) {B : Nat} (hB : B = w.heap.size) (hb : Below B w w') : Ints w' a l := by
  subst hB
  rcases h with h | ⟨b, off, ha, hlt, hc⟩
  · exact .inl h
  · exact .inr ⟨b, off, ha, Nat.lt_of_lt_of_le hlt hb.size, fun i hi => by rw [hb.cell (by simpa using hlt)]; exact hc i hi⟩
theorem ints_alloc {w : World} {a : Option Addr} {l : List Int} (h : Ints w a l) (o : Obj) : Ints (w.alloc o) a l := h.below rfl (Joins.below_alloc1 w o)
/-- The first k of the ints, and zeros behind them. -/
def rowI (l : List Int) (k : Nat) : List Value := (l.take k).map (Value.int .i64) ++ List.replicate (l.length - k) (.int .i64 0)
theorem rowI_zero (l : List Int) : rowI l 0 = (madeCells #[Value.int .i64 0] l.length).toList := by rw [toList_madeCells_one]; simp [rowI]
theorem rowI_full (l : List Int) : rowI l l.length = l.map (Value.int .i64) := by simp [rowI]
theorem rowI_at (l : List Int) (k j : Nat) (hj : j < l.length) : (rowI l k)[j]? = some (.int .i64 (if j < k then l.getD j 0 else 0)) := by
  unfold rowI
  by_cases h : j < k
  · rw [if_pos h, List.getElem?_append_left (by simp; omega)]
    simp [h, List.getD, hj]
  · rw [if_neg h, List.getElem?_append_right (by simp; omega)]
    rw [List.getElem?_replicate, if_pos (by simp; omega)]
theorem rowI_len (l : List Int) (k : Nat) (hk : k ≤ l.length) : (rowI l k).length = l.length := by simp [rowI]; omega
theorem rowI_set (l : List Int) (k : Nat) (hk : k < l.length) : (rowI l k).set k (.int .i64 (l.getD k 0)) = rowI l (k + 1) := by
  apply List.ext_getElem?
  intro j
  by_cases hj : j < l.length
  · rw [List.getElem?_set, rowI_at _ _ _ hj]
    by_cases h : k = j
    · subst h; rw [if_pos rfl, if_pos (by rw [rowI_len _ _ (by omega)]; exact hk), rowI_at _ _ _ hj, if_pos (by omega)]
    · rw [if_neg h, rowI_at _ _ _ hj]
      by_cases h1 : j < k
      · rw [if_pos h1, if_pos (by omega)]
      · rw [if_neg h1, if_neg (by omega)]
  · rw [List.getElem?_eq_none (by rw [List.length_set, rowI_len _ _ (by omega)]; omega), List.getElem?_eq_none (by rw [rowI_len _ _ (by omega)]; omega)]
/-- A row of the call's own reads as its ints. -/
theorem ints_own {w : World} {B g cap : Nat} {l : List Int} (h : w.ownsRow B 3 1 (.slice (some ⟨g, 0, none⟩) l.length cap) l.length (l.map (Value.int .i64))) : Ints w (some ⟨g, 0, none⟩) l := by
  by_cases h0 : l = []
  · exact .inl h0
  · refine .inr ⟨g, 0, rfl, (h.lt g rfl).2, fun i hi => ?_⟩
    have hg := h.cellAt i (by omega)
    rw [show (⟨g, 0 + i, none⟩ : Addr) = ⟨g, i, none⟩ by simp, hg]
    simp [List.getD, hi]
theorem grownG_trans {a b c : World} {row : Option Nat} (h : a.grownBy b row) (k : b.grownBy c row) : a.grownBy c row :=
  ⟨k.os.trans h.os, k.tape.trans h.tape, k.output.trans h.output, Nat.le_trans h.size k.size, fun i hi hr => (k.block i (Nat.lt_of_lt_of_le hi h.size) hr).trans (h.block i hi hr)⟩
theorem grownG_set {a w : World} {C : Nat} (h : a.grownBy w (some C)) (j : Nat) (v : Value) : a.grownBy (w.setCell ⟨C, j, none⟩ v) (some C) :=
  grownG_trans h ⟨rfl, rfl, rfl, by simp, fun k _ hk => Below.heap_setCell w ⟨C, j, none⟩ v k (fun e => hk (by simp [e]))⟩
theorem keepC {B : Nat} {w w' : World} {p : Addr} {v : Value} (hb : Below B w w') (hp : p.block < B) (h : w.cell? p = some v) : w'.cell? p = some v := (hb.cell hp).trans h
theorem keepF {B : Nat} {w w' : World} {p : Addr} {v : Bool} (hb : Below B w w') (hp : p.block < B) (h : w.frozen? p = v) : w'.frozen? p = v := (hb.frozen hp).trans h
/-- The cell of a variable that lies in a block of its own. -/
theorem newC (w : World) (v : Value) (t : TypeId) {n : Nat} (hn : n = w.heap.size) : (w.alloc (.cells #[v] t)).cell? ⟨n, 0, none⟩ = some v := by subst hn; simp
theorem newF (w : World) (v : Value) (t : TypeId) {n : Nat} (hn : n = w.heap.size) : (w.alloc (.cells #[v] t)).frozen? ⟨n, 0, none⟩ = false := by subst hn; simp
/-- The ints from k on. -/
def upI (k n : Nat) : List Int := (List.range n).map fun j => ((k + j : Nat) : Int)
theorem upI_len (k n : Nat) : (upI k n).length = n := by simp [upI]
theorem upI_at (k n j : Nat) (h : j < n) : (upI k n).getD j 0 = ((k + j : Nat) : Int) := by simp [upI, List.getD, h]
/-- A row whose first j ints are numbered. -/
def mixI (k : Nat) (l : List Int) (j : Nat) : List Value := ((upI k j) ++ l.drop j).map (Value.int .i64)
theorem mixI_set (k : Nat) (l : List Int) (j : Nat) (h : j < l.length) : (mixI k l j).set j (.int .i64 ((k + j : Nat) : Int)) = mixI k l (j + 1) := by
  unfold mixI
  rw [show ((k + j : Nat) : Int) = id ((k + j : Nat) : Int) from rfl, ← List.map_set]
  congr 1
  rw [List.set_append_right _ _ (by rw [upI_len]; exact Nat.le_refl _), upI_len, Nat.sub_self, List.drop_eq_getElem_cons h, List.set_cons_zero]
  simp [upI, List.range_succ]
end Go.Proofs.YtaacofbmbpkeoaaGreatDoor
