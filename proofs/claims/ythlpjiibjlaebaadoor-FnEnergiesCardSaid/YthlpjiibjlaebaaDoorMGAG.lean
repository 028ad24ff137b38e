/- Merged: OrI DSet DMid. -/
import Derived.Test.YthlpjiibjlaebaaDoorSetSpec
import Derived.Test.YthlpjiibjlaebaaDoorMGAF
import Derived.Test.YthlpjiibjlaebaaDoorMGAE
namespace Go.Proofs.YthlpjiibjlaebaaDoor
open Go.RowKit
set_option maxRecDepth 1000000
theorem orI (a b : Nat) (ha : a < 16777216) (hb : b ≤ 16777216) : bits .or .i64 (a : Int) (b : Int) = ((a ||| b : Nat) : Int) := by
  have h1 : (BitVec.ofInt 64 (a : Int)).toNat = a := by
    rw [BitVec.ofInt_natCast, BitVec.toNat_ofNat]; exact Nat.mod_eq_of_lt (by omega)
  have h2 : (BitVec.ofInt 64 (b : Int)).toNat = b := by
    rw [BitVec.ofInt_natCast, BitVec.toNat_ofNat]; exact Nat.mod_eq_of_lt (by omega)
  show IntKind.i64.wrap ((BitVec.ofInt 64 (a : Int) ||| BitVec.ofInt 64 (b : Int)).toNat : Int) = _
  rw [BitVec.toNat_or, h1, h2]
  have h3 : a ||| b < 2 ^ 25 := Nat.or_lt_two_pow (Nat.lt_trans ha (by decide)) (Nat.lt_of_le_of_lt hb (by decide))
  have h4 : (2 : Nat) ^ 25 = 33554432 := by decide
  rw [h4] at h3
  generalize a ||| b = c at *
  simp [IntKind.wrap, IntKind.signed, IntKind.bits]
  omega
theorem or_step {O : Nat} {V : Int} (hO : O < 16777216) (h0 : 0 ≤ V) (h1 : V ≤ 23) : bits .or .i64 (O : Int) (wrap64 (2 ^ V.toNat)) = ((O ||| 2 ^ V.toNat : Nat) : Int) := by
  rw [wrap_pow (by omega), orI _ _ hO (pow_le24 (by omega))]
end Go.Proofs.YthlpjiibjlaebaaDoor

namespace Go.Proofs.YthlpjiibjlaebaaDoor
open Go.RowKit
set_option maxRecDepth 1000000
theorem pow_fit {k : Nat} (h : k ≤ 24) : ∃ P : Int, wrap64 ((2 : Int) ^ k) = P ∧ 1 ≤ P ∧ P ≤ 16777216 := by
  have h1 := pow_le24 h
  have h2 : 1 ≤ 2 ^ k := Nat.one_le_two_pow
  exact ⟨_, wrap_pow h, by omega, by omega⟩
set_option maxHeartbeats 4000000 in
theorem l3Set_any (w : World) (C : Nat) (a : Option Addr) (len cap : Nat) (l : List Int) (b : Option Addr) (n cp : Nat) (hn : n = l.length) (hm : n ≤ 9223372036854775807) (hi : Ints w b l) (hlen : len ≤ 1048576) (hc : CurAt w C a len cap) (hd : DataAt w C a len) :
    Calls Tryd.prog 76 #[.pointer (some ⟨C, 0, none⟩), .agg #[.slice b n cp]] w (AnyInt w C a len cap) := by
  have HC := Lib.hid hc
  have HD := Lib.hid hd
  have HN := Lib.hid hn
  have hCw : C < w.heap.size := hc.lt
  have HI := Lib.hid (ints_alloc hi (.cells #[.slice b n cp] 26))
  have HG0 := Lib.hid (World.grownBy_alloc w (.cells #[.slice b n cp] 26) (some C))
  have HCA := Lib.hid (HC.out.other (heap_alloc_old w (.cells #[.slice b n cp] 26) hCw))
  have C1 := newC w (.slice b n cp) 26 (n := w.heap.size) rfl
  have HOR := Lib.hid (sOrderOf _ b l n cp HN.out hm HI.out)
  have HL := Lib.hid (ordN_le l)
  clear hc hd hi hn
  obtain ⟨N, HNN⟩ : ∃ N, Hid (ordN l = N) := ⟨_, Lib.hid rfl⟩
  rw [HNN.out] at HOR HL
  have hN := HL.out
  go_enter Tryd.func76, Tryd.ntmps76
  go_wp2_with (go_at_call 107; refine HOR.out.mono ?_; rintro e w2 ⟨rfl, hb2⟩)
  all_goals
    have HG2 := Lib.hid (grownC_trans HG0.out (below_grown hb2 (row := some C)))
    have hC1 : C < (w.alloc (.cells #[.slice b n cp] 26)).heap.size := by simp; omega
    obtain ⟨M, HM⟩ : ∃ M : Int, Hid (max 1 N = M) := ⟨_, Lib.hid rfl⟩
    have hM1 : 1 ≤ M := by have := HM.out; omega
    have hM2 : M ≤ 24 := by have := HM.out; omega
    first | rw [HM.out] | rw [show N = M from by have := HM.out; omega] | rw [show (1 : Int) = M from by have := HM.out; omega]
    refine (below_small w2 C a len cap 6 hlen (HCA.out.other (hb2.block C hC1)) (HD.out.grown HG2.out) (by omega) (by omega)).mono ?_
    rintro e w3 ⟨x, rfl, hx0, hx1, hcur, hg⟩
    have HC3 := Lib.hid hcur
    have HG3 := Lib.hid (grownC_trans HG2.out hg)
    clear hcur hg hb2 HCA HOR
    go_wp2
    go_loopw [6, 7] (fun aa kk wr => ∃ (A : Nat) (k : Int), aa = .int .i64 (A : Nat) ∧ kk = .int .i64 k ∧ 0 ≤ k ∧ k ≤ 5 ∧ Hid (A < 16777216) ∧ CurAt wr C a len cap ∧ w.grownBy wr (some C)) (fun _ kk _ => (intOf kk).toNat)
    case atStart => exact ⟨0, x, rfl, rfl, hx0, by omega, Lib.hid (by decide), HC3.out, HG3.out⟩
    case round =>
      obtain ⟨A, k, rfl, rfl, hk0, hk5, HA, hcur, hg⟩ := hrel
      have HCr := Lib.hid hcur
      have HGr := Lib.hid hg
      clear hcur hg
      by_cases hk : 0 < k
      · go_wp2_with (fail)
        refine (below_small _ C a len cap M hlen HCr.out (HD.out.grown HGr.out) (by omega) (by omega)).mono ?_
        rintro e w5 ⟨y, rfl, hy0, hy1, hcur, hg⟩
        have HC5 := Lib.hid hcur
        have HG5 := Lib.hid (grownC_trans HGr.out hg)
        clear hcur hg
        have HOS := Lib.hid (or_step HA.out hy0 (by omega))
        have HA2 : Hid (A ||| 2 ^ y.toNat < 16777216) := Lib.hid (Nat.or_lt_two_pow (n := 24) HA.out (Nat.pow_lt_pow_right (by decide) (by omega)))
        go_wp2
        go_roundw
        case rel => exact ⟨A ||| 2 ^ y.toNat, k - 1, by rw [HOS.out], rfl, by omega, by omega, HA2, HC5.out, HG5.out⟩
        case measure => simp [intOf]; omega
      · go_wp2_with (fail)
        refine (below_small _ C a len cap 20 hlen HCr.out (HD.out.grown HGr.out) (by omega) (by omega)).mono ?_
        rintro e w5 ⟨y, rfl, hy0, hy1, hcur, hg⟩
        have HC5 := Lib.hid hcur
        have HG5 := Lib.hid (grownC_trans HGr.out hg)
        clear hcur hg
        by_cases h0 : y = 0
        · have e0 : (y == 0) = true := by simp [h0]
          obtain ⟨P, HP, hP1, hP2⟩ := pow_fit (k := M.toNat) (by omega)
          clear h0
          go_wp2
          go_ret
          exact ⟨_, rfl, by first | omega | (rw [HP]; omega), by first | omega | (rw [HP]; omega), HC5.out, HG5.out⟩
        · have e0 : (y == 0) = false := by simpa using h0
          by_cases h1 : y = 1
          · have e1 : (y == 1) = true := by simp [h1]
            clear h0 h1
            go_wp2_with (fail)
            refine (pick_any _ C a len cap w5.heap.size 3 3 hlen ?h1 ?h2 (by omega) (by omega) ?h3 ?h4).mono ?_
            case h1 => exact HC5.out.other (heap_alloc_old w5 _ HC5.out.lt)
            case h2 => exact (HD.out.grown HG5.out).grown (World.grownBy_alloc w5 _ _)
            case h3 => have := HC5.out.lt; omega
            case h4 =>
              intro i hi
              have : ∃ z : Int, -9223372036854775808 ≤ z ∧ z ≤ 9223372036854775807 ∧ (#[.int .i64 (-1), .int .i64 16777216, .int .i64 9223372036854775807] : Array Value)[i]? = some (.int .i64 z) := by
                match i, hi with
                | 0, _ => exact ⟨-1, by decide, by decide, rfl⟩
                | 1, _ => exact ⟨16777216, by decide, by decide, rfl⟩
                | 2, _ => exact ⟨9223372036854775807, by decide, by decide, rfl⟩
              obtain ⟨z, hz0, hz1, hz⟩ := this
              exact ⟨z, hz0, hz1, (World.cell?_alloc_at _ _ _ _ rfl).trans hz⟩
            rintro e w6 ⟨z, rfl, hz0, hz1, hcur, hg⟩
            have HC6 := Lib.hid hcur
            have HG6 := Lib.hid (grownC_trans (grownC_trans HG5.out (World.grownBy_alloc w5 _ _)) hg)
            clear hcur hg
            go_wp2
            go_ret
            exact ⟨_, rfl, hz0, hz1, HC6.out, HG6.out⟩
          · have e1 : (y == 1) = false := by simpa using h1
            clear h0 h1
            go_wp2
            go_ret
            exact ⟨_, rfl, by omega, by have := HA.out; omega, HC5.out, HG5.out⟩
end Go.Proofs.YthlpjiibjlaebaaDoor

namespace Go.Proofs.YthlpjiibjlaebaaDoor
open Go.RowKit
set_option maxRecDepth 1000000
abbrev nilG : Obj := .cells #[.slice none 0 0] 26
theorem below_newset {a w : World} {B : Nat} (h : Below B a w) {b : Nat} (hb : B ≤ b) (v : Value) : Below B a (w.setCell ⟨b, 0, none⟩ v) :=
  ⟨h.os, h.tape, h.output, by simpa using h.size, fun k hk => (heap_setCell_other w ⟨b, 0, none⟩ k v (fun e => by simp at e; omega)).trans (h.block k hk)⟩
/-- The result's variable in block w.heap.size, the cursor in the next one, the drawn group's row above. -/
structure MidG (w w3 : World) (a : Option Addr) (len cap : Nat) (au : Option Addr) (cu : Nat) (l : List Int) : Prop where
  cur : CurAt w3 (w.heap.size + 1) a len cap
  dat : DataAt w3 (w.heap.size + 1) a len
  res : w3.heap[w.heap.size]? = some (.cells #[.slice none 0 0] 26 (0, 0))
  own : w3.ownsRow (w.heap.size + 2) 3 1 (.slice au l.length cu) l.length (l.map (Value.int .i64))
  few : l.length ≤ 4
  bel : Below w.heap.size w w3
  lt : w.heap.size + 2 ≤ w3.heap.size
theorem MidG.grown {w w3 w4 : World} {a : Option Addr} {len cap : Nat} {au : Option Addr} {cu : Nat} {l : List Int} (m : MidG w w3 a len cap au cu l) (hc : CurAt w4 (w.heap.size + 1) a len cap) (hg : w3.grownBy w4 (some (w.heap.size + 1))) : MidG w w4 a len cap au cu l :=
  have hlt := m.lt
  ⟨hc, m.dat.grown hg, (hg.block _ (by omega) (by simp)).trans m.res, m.own.kept hg (.inr fun e => by have := (m.own.lt _ e).1; omega), m.few, m.bel.grown hg (by omega) (fun k hk => by cases hk; omega), Nat.le_trans m.lt hg.size⟩
theorem MidG.below {w w3 w4 : World} {a : Option Addr} {len cap : Nat} {au : Option Addr} {cu : Nat} {l : List Int} (m : MidG w w3 a len cap au cu l) (hb : Below w3.heap.size w3 w4) : MidG w w4 a len cap au cu l :=
  m.grown (m.cur.other (hb.block _ (by have := m.lt; omega))) (below_grown hb _)
theorem MidG.drew {w w3 : World} {a : Option Addr} {len cap : Nat} {au : Option Addr} {cu : Nat} {l : List Int} (m : MidG w w3 a len cap au cu l) : MidG w w3.drew a len cap au cu l :=
  m.grown m.cur ⟨rfl, rfl, rfl, Nat.le_refl _, fun _ _ _ => rfl⟩
theorem MidG.alloc {w w3 : World} {a : Option Addr} {len cap : Nat} {au : Option Addr} {cu : Nat} {l : List Int} (m : MidG w w3 a len cap au cu l) (c : Array Value) (t : TypeId) : MidG w (w3.alloc (.cells c t)) a len cap au cu l :=
  m.below (Joins.below_alloc1 _ _)
theorem MidG.ints {w w3 : World} {a : Option Addr} {len cap : Nat} {au : Option Addr} {cu : Nat} {l : List Int} (m : MidG w w3 a len cap au cu l) : Ints w3 au l := own_ints' rfl m.own
theorem MidG.apart {w w3 : World} {a : Option Addr} {len cap : Nat} {au : Option Addr} {cu : Nat} {l : List Int} (m : MidG w w3 a len cap au cu l) : ∀ x, au = some x → x.block ≠ w.heap.size + 1 := fun x e h => by
  subst e
  have := (m.own.lt x.block (by simp [Value.ownBlock])).1
  omega
theorem MidG.cells {w w3 : World} {a : Option Addr} {len cap : Nat} {au : Option Addr} {cu : Nat} {l : List Int} (m : MidG w w3 a len cap au cu l) : w3.cell? ⟨w.heap.size, 0, none⟩ = some (.slice none 0 0) ∧ w3.frozen? ⟨w.heap.size, 0, none⟩ = false := one_cell m.res
theorem MidG.finish {w w3 : World} {a : Option Addr} {len cap : Nat} {au : Option Addr} {cu : Nat} {l : List Int} (m : MidG w w3 a len cap au cu l) :
    (w3.setCell ⟨w.heap.size, 0, none⟩ (.slice au l.length cu)).ownsRow w.heap.size 3 1 (.slice au l.length cu) l.length (l.map (Value.int .i64)) ∧ Below w.heap.size w (w3.setCell ⟨w.heap.size, 0, none⟩ (.slice au l.length cu)) :=
  ⟨ownsRow_lower (ownsRow_setCell_below (a := ⟨w.heap.size, 0, none⟩) m.own (by show w.heap.size < _; omega) _) (by omega), below_newset m.bel (Nat.le_refl _) _⟩
/-- The cursor made, behind the result's variable. -/
theorem new_at (w : World) (a : Option Addr) (len cap : Nat) (hlen : len ≤ 1048576) (hd : CodeIn w a len) :
    Calls Tryd.prog 74 #[.slice a len cap] (w.alloc nilG) fun e w1 => e = .returned (.pointer (some ⟨w.heap.size + 1, 0, none⟩)) ∧ CurAt w1 (w.heap.size + 1) a len cap ∧ DataAt w1 (w.heap.size + 1) a len ∧ Below (w.heap.size + 1) (w.alloc nilG) w1 := by
  have h := new_any (w.alloc nilG) a len cap hlen (hd.below (Joins.below_alloc1 w nilG))
  have e : (w.alloc nilG).heap.size = w.heap.size + 1 := by simp
  unfold NewCur at h
  rw [e] at h
  exact h
/-- A group drawn with the new cursor. -/
theorem mid_of {w w1 w2 : World} {a : Option Addr} {len cap : Nat} {u : Value} {l : List Int} (hd : DataAt w1 (w.heap.size + 1) a len) (hb : Below (w.heap.size + 1) (w.alloc nilG) w1) (hc1 : CurAt w1 (w.heap.size + 1) a len cap)
    (ho : w2.ownsRow w1.heap.size 3 1 u l.length (l.map (Value.int .i64))) (hl : l.length ≤ 4) (hc : CurAt w2 (w.heap.size + 1) a len cap) (hg : w1.grownBy w2 (some (w.heap.size + 1))) :
    ∃ au cu, u = .slice au l.length cu ∧ MidG w w2 a len cap au cu l := by
  obtain ⟨au, cu, rfl⟩ := own_slice' rfl ho
  have h1 := hc1.lt
  have h2 := hg.size
  have hb0 : Below w.heap.size w w1 := (Joins.below_alloc1 w nilG).trans (hb.mono (by omega))
  refine ⟨au, cu, rfl, hc, hd.grown hg, ?_, ownsRow_lower ho (by omega), hl, hb0.grown hg (by omega) (fun k hk => by cases hk; omega), by omega⟩
  rw [hg.block _ (by omega) (by simp), hb.block _ (by omega)]
  exact heap_alloc_new w nilG
end Go.Proofs.YthlpjiibjlaebaaDoor
