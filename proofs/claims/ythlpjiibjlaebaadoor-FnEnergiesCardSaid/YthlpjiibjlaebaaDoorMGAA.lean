/- Merged: Bytes Draw. -/
import Derived.Test.YthlpjiibjlaebaaDoorRows
import Derived.WalkKit
import Derived.LoopTactic
import Derived.IntWalk
import Derived.Below
import Derived.OneCell
import Derived.Lib.Hide
import Derived.Lib.BufferRead
import Derived.Lib.SmallJoins
import Derived.Laws.OwnMore
import Derived.Laws.BitsAllLaws
import Derived.Laws.BitsLemmas
import Derived.Laws.Bits128
import Derived.Laws.IdiomStrings
import Derived.Outline
import Derived.Deep.RegionLaw
import Derived.Deep.QuietTactic
import Derived.BigQuiet
namespace Go.Proofs.YthlpjiibjlaebaaDoor
open Go.RowKit
def byteV (b : UInt8) : Value := .int .u8 (b.toNat : Int)
def bs (l : List UInt8) : ByteArray := ⟨l.toArray⟩
abbrev strV (l : List UInt8) : Value := .string (bs l)
theorem bs_append (a b : List UInt8) : bs a ++ bs b = bs (a ++ b) := by
  apply ByteArray.ext; simp [bs, ByteArray.data_append]
theorem bs_size (a : List UInt8) : (bs a).size = a.length := by simp [bs, ByteArray.size]
theorem byteInfo : (Tryd.prog.info? 5).map (fun i => (i.zero, i.size, i.bytes)) = some (some (.int .u8 0), 1, 1) := by kernel_rfl
theorem conv_own {w : World} {B : Nat} {v : Value} {l : List UInt8} (h : w.ownsRow B 5 1 v l.length (l.map byteV)) :
    (convert 22 9 v).run Tryd.prog w = .ok (strV l) w := by
  have hc := @World.ownsRow.cells _ _ _ _ _ _ _ h
  rcases h.2 with ⟨rfl, hn⟩ | ⟨g, cap, cur, rfl, hb, hg, hcap, hm, hs, ht⟩
  · obtain rfl : l = [] := List.length_eq_zero_iff.1 hn
    exact Lib.run_convert_nil_bytes w 22 9 5 0 Tryd.underlying22 Tryd.underlying5 Tryd.underlying9
  · refine run_convert_bytes_back w 22 9 5 ⟨g, 0, none⟩ cap l Tryd.underlying22 Tryd.underlying5 Tryd.underlying9 (fun j hj => ?_)
    exact hc (g := g) rfl j _ (by simp [byteV, List.getElem?_eq_getElem hj])
theorem conv_one (w : World) (u : UInt8) (x : Int) (h : (u.toNat : Int) = x) :
    (convert 22 9 (.slice (some ⟨w.heap.size, 0, none⟩) 1 1)).run Tryd.prog (w.alloc (.cells #[.int .u8 x] 5)) = .ok (strV [u]) (w.alloc (.cells #[.int .u8 x] 5)) := by
  subst h
  exact conv_own (l := [u]) (World.ownsRow_lit w #[byteV u] 1 (Nat.le_refl _) (by decide) rfl)
/-- append onto a row of the call's own, as one step of a region that draws its order. -/
theorem step_append_own {P : Program} {ops : Array Oper} {o : Oper} {a : Act} {w : World} {K : Act → World → Prop} {Q : Exit → Act → World → Prop} {E : Prop} (hg : o.guard = none) (s x : Operand) (t : TypeId)
    (ho : o.op = .call { callee := .builtin .append, args := #[s, x], argTypes := #[t, t] })
    (base : Nat) (e : TypeId) (i : TypeInfo) (z : Value) (size bytes : Nat) (ht : P.underlying t = some (.slice e)) (hi : P.info? e = some i) (hz : i.zero = some z)
    (hsize : i.size = size) (hby : i.bytes = bytes) (hzs : z.cells.size = size) (hsz : 0 < size)
    (v : Value) (n : Nat) (xs : List Value) (hs : a.eval s = v) (hown : w.ownsRow base e size v n xs)
    (ad : Addr) (m c : Nat) (news : List Value) (hx : a.eval x = .slice (some ad) m c) (hl : news.length = m * size) (hnews : ∀ j u, news[j]? = some u → w.cell? (ad.add j) = some u) (h1 : ∀ u ∈ news, u.oneCell' = true)
    (h63 : n + m ≤ maxLen) (hbytes : (n + m) * bytes ≤ 140737488355328) (hbase : base ≤ w.heap.size)
    (h : ∀ v' w', w'.ownsRow base e size v' (n + m) (xs ++ news) → w.grownBy w' v.ownBlock → K (a.put o.dst v') w') :
    if Region.wanted o (yielded ops a.tmps) = true then Oper.wp P o a w K Q else E := by
  have hw : Region.wanted o (yielded ops a.tmps) = true := by simp [Region.wanted, hg]
  rw [if_pos hw]
  exact wp_append_own w s x t ho base e i z size bytes ht hi hz hsize hby hzs hsz v n xs hs hown ad m c news hx hl hnews h1 h63 hbytes hbase (fun v' w' a b _ => h v' w' a b)
theorem news2 (w : World) (x y : Value) (T : TypeId) : ∀ (j : Nat) (u : Value), [x, y][j]? = some u → (w.alloc (.cells #[x, y] T)).cell? ((⟨w.heap.size, 0, none⟩ : Addr).add j) = some u := by
  intro j u hu
  match j, hu with
  | 0, hu => simp at hu; subst hu; simp [Addr.add]
  | 1, hu => simp at hu; subst hu; simp [Addr.add]
theorem one2 (x y : UInt8) : ∀ u ∈ [byteV x, byteV y], u.oneCell' = true := by
  intro u hu; simp at hu; rcases hu with rfl | rfl <;> rfl
theorem u8_of (x : Int) (h0 : 0 ≤ x) (h1 : x < 256) : ∃ u : UInt8, (u.toNat : Int) = x := ⟨UInt8.ofNat x.toNat, by
  have : x.toNat < 256 := by omega
  simp [UInt8.toNat_ofNat', Nat.mod_eq_of_lt this]; omega⟩
end Go.Proofs.YthlpjiibjlaebaaDoor

namespace Go.Proofs.YthlpjiibjlaebaaDoor
open Go.RowKit
/-- The cursor lies in block C. -/
def CurAt (w : World) (C : Nat) (a : Option Addr) (len cap : Nat) : Prop :=
  ∃ i h : Int, 0 ≤ i ∧ i ≤ len ∧ w.heap[C]? = some (.cells #[.slice a len cap, .int .i64 i, .int .i64 h] 94 (0, 0))
/-- The code's bytes lie in a block that is not the cursor's. -/
def DataAt (w : World) (C : Nat) (a : Option Addr) (len : Nat) : Prop :=
  len = 0 ∨ ∃ b off, a = some ⟨b, off, none⟩ ∧ b ≠ C ∧ ∀ i, i < len → ∃ x : Nat, x < 256 ∧ w.cell? ⟨b, off + i, none⟩ = some (.int .u8 x)
theorem grownC_trans {a b c : World} {row : Option Nat} (h : a.grownBy b row) (k : b.grownBy c row) : a.grownBy c row :=
  ⟨k.os.trans h.os, k.tape.trans h.tape, k.output.trans h.output, Nat.le_trans h.size k.size, fun i hi hr => (k.block i (Nat.lt_of_lt_of_le hi h.size) hr).trans (h.block i hi hr)⟩
theorem grownC_drew {a w : World} {row : Option Nat} (h : a.grownBy w row) (n : Nat) : a.grownBy (w.drewN n) row := ⟨h.os, h.tape, h.output, h.size, h.block⟩
theorem grown_set {a w : World} {C : Nat} (h : a.grownBy w (some C)) (j : Nat) (v : Value) : a.grownBy (w.setCell ⟨C, j, none⟩ v) (some C) :=
  grownC_trans h ⟨rfl, rfl, rfl, by simp, fun k _ hk => heap_setCell_other w ⟨C, j, none⟩ k v (fun e => hk (by simp [e]))⟩
theorem DataAt.grown {w w' : World} {C : Nat} {a : Option Addr} {len : Nat} (h : DataAt w C a len) (hg : w.grownBy w' (some C)) : DataAt w' C a len := by
  rcases h with h | ⟨b, off, ha, hb, hc⟩
  · exact Or.inl h
  · refine Or.inr ⟨b, off, ha, hb, fun i hi => ?_⟩
    obtain ⟨x, hx, hcell⟩ := hc i hi
    exact ⟨x, hx, hg.cell hcell (by simpa using hb)⟩
theorem i64_and255 (n : Int) : bits .and .i64 n 255 = n % 256 := by
  have h255 : (BitVec.ofInt 64 255).toNat = 2 ^ 8 - 1 := by decide
  have key : (BitVec.ofInt 64 n &&& BitVec.ofInt 64 255).toNat = (n % ((2 ^ 64 : Nat) : Int)).toNat % 2 ^ 8 := by
    rw [BitVec.toNat_and, BitVec.toNat_ofInt, h255, Nat.and_two_pow_sub_one_eq_mod]
  show IntKind.i64.wrap ((BitVec.ofInt 64 n &&& BitVec.ofInt 64 255).toNat : Nat) = n % 256
  rw [key, IntKind.wrap_i64]
  omega
theorem cur_cell {w : World} {C : Nat} {x y z : Value} {T : TypeId} (h : w.heap[C]? = some (.cells #[x, y, z] T (0, 0))) :
    w.cell? ⟨C, 0, none⟩ = some x ∧ w.cell? ⟨C, 1, none⟩ = some y ∧ w.cell? ⟨C, 2, none⟩ = some z ∧ (∀ j, w.frozen? ⟨C, j, none⟩ = false) :=
  ⟨by simp [World.cell?, h], by simp [World.cell?, h], by simp [World.cell?, h], fun j => by simp [World.frozen?, h]⟩
/-- What a drawing step leaves. -/
def Drawn (w : World) (C : Nat) (a : Option Addr) (len cap : Nat) (lo hi : Int) (e : Ending) (w' : World) : Prop :=
  ∃ x : Int, e = .returned (.int .i64 x) ∧ lo ≤ x ∧ x ≤ hi ∧ CurAt w' C a len cap ∧ w.grownBy w' (some C)
set_option maxHeartbeats 2000000 in
set_option maxRecDepth 1000000 in
theorem byte_end (w : World) (C : Nat) (a : Option Addr) (len cap : Nat) (i h : Int) (hi0 : 0 ≤ i) (hil : i ≤ len) (hge : (len : Int) ≤ i)
    (hb : w.heap[C]? = some (.cells #[.slice a len cap, .int .i64 i, .int .i64 h] 94 (0, 0))) :
    Calls Tryd.prog 111 #[.pointer (some ⟨C, 0, none⟩)] w (Drawn w C a len cap 0 255) := by
  obtain ⟨c0, c1, c2, hf⟩ := cur_cell hb
  have f2 := hf 2
  clear hf
  have HB := Lib.hid hb
  clear hb
  go_enter Tryd.func111, Tryd.ntmps111
  go_wp2
  generalize wrap64 (wrap64 (h * 6364136223846793005) + 1442695040888963407) = h2
  have hb2 : (w.setCell ⟨C, 2, none⟩ (.int .i64 h2)).heap[C]? = some (.cells #[.slice a len cap, .int .i64 i, .int .i64 h2] 94 (0, 0)) := by
    rw [heap_setCell_same w C 2 _ _ (.int .i64 h2) HB.out]; rfl
  have hg2 := grown_set (World.grownBy.refl w (some C)) 2 (.int .i64 h2)
  generalize w.setCell ⟨C, 2, none⟩ (.int .i64 h2) = w2 at hb2 hg2 ⊢
  clear c0 c1 c2 f2 HB
  obtain ⟨c0, c1, c2, hf⟩ := cur_cell hb2
  clear hf
  have HB2 := Lib.hid hb2
  clear hb2
  go_quiet (fail)
  go_wp2
  go_quiet (fail)
  go_wp2
  go_ret
  exact ⟨_, rfl, by rw [i64_and255]; omega, by rw [i64_and255]; omega, ⟨i, h2, hi0, hil, HB2.out⟩, grownC_drew (grownC_drew hg2 _) _⟩
set_option maxHeartbeats 2000000 in
set_option maxRecDepth 1000000 in
theorem byte_mid (w : World) (C : Nat) (b off len cap q x : Nat) (h : Int) (hlen : len ≤ 1048576) (hq : q < len) (hx : x < 256) (hne : b ≠ C)
    (hd : w.cell? ⟨b, off + q, none⟩ = some (.int .u8 x))
    (hb : w.heap[C]? = some (.cells #[.slice (some ⟨b, off, none⟩) len cap, .int .i64 q, .int .i64 h] 94 (0, 0))) :
    Calls Tryd.prog 111 #[.pointer (some ⟨C, 0, none⟩)] w (Drawn w C (some ⟨b, off, none⟩) len cap 0 255) := by
  obtain ⟨c0, c1, c2, hf⟩ := cur_cell hb
  have f2 := hf 2
  clear hf
  have HB := Lib.hid hb
  have HD := Lib.hid hd
  have HNE := Lib.hid hne
  clear hb hd hne
  go_enter Tryd.func111, Tryd.ntmps111
  go_wp2
  generalize wrap64 (wrap64 (h * 6364136223846793005) + 1442695040888963407) = h2
  have hb2 : (w.setCell ⟨C, 2, none⟩ (.int .i64 h2)).heap[C]? = some (.cells #[.slice (some ⟨b, off, none⟩) len cap, .int .i64 q, .int .i64 h2] 94 (0, 0)) := by
    rw [heap_setCell_same w C 2 _ _ (.int .i64 h2) HB.out]; rfl
  have hg2 := grown_set (World.grownBy.refl w (some C)) 2 (.int .i64 h2)
  generalize w.setCell ⟨C, 2, none⟩ (.int .i64 h2) = w2 at hb2 hg2 ⊢
  clear c0 c1 c2 f2 HB
  obtain ⟨c0, c1, c2, hf⟩ := cur_cell hb2
  have f1 := hf 1
  clear hf
  have hd2 : w2.cell? ⟨b, off + q, none⟩ = some (.int .u8 x) := hg2.cell HD.out (by simpa using HNE.out)
  have HB2 := Lib.hid hb2
  clear hb2
  go_quiet (fail)
  go_wp2
  go_quiet (fail)
  go_wp2
  go_quiet (fail)
  go_wp2
  go_ret
  exact ⟨_, rfl, by rw [i64_and255]; omega, by rw [i64_and255]; omega, ⟨(q : Int) + 1, h2, by omega, by omega, heap_setCell_same _ C 1 _ _ _ HB2.out⟩, grown_set (grownC_drew hg2 _) 1 _⟩
theorem byte_any (w : World) (C : Nat) (a : Option Addr) (len cap : Nat) (hlen : len ≤ 1048576) (hc : CurAt w C a len cap) (hd : DataAt w C a len) :
    Calls Tryd.prog 111 #[.pointer (some ⟨C, 0, none⟩)] w (Drawn w C a len cap 0 255) := by
  obtain ⟨i, h, hi0, hil, hb⟩ := hc
  by_cases hge : (len : Int) ≤ i
  · exact byte_end w C a len cap i h hi0 hil hge hb
  · obtain ⟨q, rfl⟩ : ∃ q : Nat, i = q := ⟨i.toNat, by omega⟩
    rcases hd with h0 | ⟨b, off, rfl, hne, hcell⟩
    · omega
    · obtain ⟨x, hx, hcx⟩ := hcell q (by omega)
      exact byte_mid w C b off len cap q x h hlen (by omega) hx hne hcx hb
set_option maxHeartbeats 2000000 in
set_option maxRecDepth 1000000 in
theorem below_small (w : World) (C : Nat) (a : Option Addr) (len cap : Nat) (n : Int) (hlen : len ≤ 1048576) (hc : CurAt w C a len cap) (hd : DataAt w C a len) (h0 : 0 < n) (h1 : n ≤ 256) :
    Calls Tryd.prog 92 #[.pointer (some ⟨C, 0, none⟩), .int .i64 n] w (Drawn w C a len cap 0 (n - 1)) := by
  have F := Lib.hid (byte_any w C a len cap hlen hc hd)
  clear hc hd
  go_enter Tryd.func92, Tryd.ntmps92
  go_wp2_with fail
  refine F.out.mono ?_
  rintro e w1 ⟨x, rfl, hx0, hx1, hcur, hg⟩
  have HC := Lib.hid hcur
  have HG := Lib.hid hg
  clear hcur hg
  go_wp2
  go_ret
  exact ⟨_, rfl, Int.emod_nonneg _ (by omega), by have := Int.emod_lt_of_pos x h0; omega, HC.out, HG.out⟩
set_option maxHeartbeats 2000000 in
set_option maxRecDepth 1000000 in
theorem below_big (w : World) (C : Nat) (a : Option Addr) (len cap : Nat) (n : Int) (hlen : len ≤ 1048576) (hc : CurAt w C a len cap) (hd : DataAt w C a len) (h0 : 256 < n) :
    Calls Tryd.prog 92 #[.pointer (some ⟨C, 0, none⟩), .int .i64 n] w (Drawn w C a len cap 0 (n - 1)) := by
  have F := Lib.hid (byte_any w C a len cap hlen hc hd)
  have HD := Lib.hid hd
  clear hc hd
  go_enter Tryd.func92, Tryd.ntmps92
  go_wp2_with fail
  refine F.out.mono ?_
  rintro e w1 ⟨x1, rfl, hx0, hx1, hcur, hg⟩
  have F1 := Lib.hid (byte_any w1 C a len cap hlen hcur (HD.out.grown hg))
  have HG := Lib.hid hg
  clear hcur hg
  go_wp2_with fail
  refine F1.out.mono ?_
  rintro e w2 ⟨x2, rfl, hy0, hy1, hcur, hg⟩
  have HG2 := Lib.hid (grownC_trans HG.out hg)
  have F2 := Lib.hid (byte_any w2 C a len cap hlen hcur (HD.out.grown HG2.out))
  clear hcur hg
  go_wp2_with fail
  refine F2.out.mono ?_
  rintro e w3 ⟨x3, rfl, hz0, hz1, hcur, hg⟩
  have HG3 := Lib.hid (grownC_trans HG2.out hg)
  have F3 := Lib.hid (byte_any w3 C a len cap hlen hcur (HD.out.grown HG3.out))
  clear hcur hg
  go_wp2_with fail
  refine F3.out.mono ?_
  rintro e w4 ⟨x4, rfl, hu0, hu1, hcur, hg⟩
  have HG4 := Lib.hid (grownC_trans HG3.out hg)
  have HC := Lib.hid hcur
  clear hcur hg
  go_wp2
  go_ret
  exact ⟨_, rfl, Int.emod_nonneg _ (by omega), by have := Int.emod_lt_of_pos (x1 * 16777216 + x2 * 65536 + x3 * 256 + x4) (show 0 < n by omega); omega, HC.out, HG4.out⟩
theorem below_any (w : World) (C : Nat) (a : Option Addr) (len cap : Nat) (n : Int) (hlen : len ≤ 1048576) (hc : CurAt w C a len cap) (hd : DataAt w C a len) (h0 : 0 < n) :
    Calls Tryd.prog 92 #[.pointer (some ⟨C, 0, none⟩), .int .i64 n] w (Drawn w C a len cap 0 (n - 1)) := by
  by_cases h : n ≤ 256
  · exact below_small w C a len cap n hlen hc hd h0 h
  · exact below_big w C a len cap n hlen hc hd (by omega)
end Go.Proofs.YthlpjiibjlaebaaDoor
