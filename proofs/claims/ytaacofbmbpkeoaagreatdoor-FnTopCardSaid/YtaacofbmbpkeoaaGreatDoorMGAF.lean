/- Merged: OrI DSet DMid Ones. -/
import Derived.Test.YtaacofbmbpkeoaaGreatDoorMGAE
import Derived.Test.YtaacofbmbpkeoaaGreatDoorMGAC
namespace Go.Proofs.YtaacofbmbpkeoaaGreatDoor
open Go.RowKit
set_option maxRecDepth 1000000
theorem orI (a b : Nat) (ha : a < 16777216) (hb : b ≤ 16777216) : bits .or .i64 (a : Int) (b : Int) = ((a ||| b : Nat) : Int) := by
  have h1 : (BitVec.ofInt 64 (a : Int)).toNat = a := by
    rw [BitVec.ofInt_natCast, BitVec.toNat_ofNat]; exact Nat.mod_eq_of_lt (by omega)
  have h2 : (BitVec.ofInt 64 (b : Int)).toNat = b := by
    rw [BitVec.ofInt_natCast, BitVec.toNat_ofNat]; exact Nat.mod_eq_of_lt (by omega)
  show IntKind.i64.wrap ((BitVec.ofInt 64 (a : Int) ||| BitVec.ofInt 64 (b : Int)).toNat : Int) = _
  rw [BitVec.toNat_or, h1, h2]
  have h3 : a ||| b < 2 ^ 25 := Nat.or_lt_two_pow (Nat.lt_trans ha (by decide)) (Nat.lt_of_le_of_lt hb (by decide))
  have h4 : (2 : Nat) ^ 25 = 33554432 := by decide
  rw [h4] at h3
  generalize a ||| b = c at *
  simp [IntKind.wrap, IntKind.signed, IntKind.bits]
  omega
theorem or_step {O : Nat} {V : Int} (hO : O < 16777216) (h0 : 0 ≤ V) (h1 : V ≤ 23) : bits .or .i64 (O : Int) (wrap64 (2 ^ V.toNat)) = ((O ||| 2 ^ V.toNat : Nat) : Int) := by
  rw [wrap_pow (by omega), orI _ _ hO (pow_le24 (by omega))]
end Go.Proofs.YtaacofbmbpkeoaaGreatDoor

namespace Go.Proofs.YtaacofbmbpkeoaaGreatDoor
open Go.RowKit
set_option maxRecDepth 1000000
theorem pow_fit {k : Nat} (h : k ≤ 24) : ∃ P : Int, wrap64 ((2 : Int) ^ k) = P ∧ 1 ≤ P ∧ P ≤ 16777216 := by
  have h1 := pow_le24 h
  have h2 : 1 ≤ 2 ^ k := Nat.one_le_two_pow
  exact ⟨_, wrap_pow h, by omega, by omega⟩
set_option maxHeartbeats 4000000 in
theorem l3Set_any (w : World) (C : Nat) (a : Option Addr) (len cap : Nat) (l : List Int) (b : Option Addr) (n cp : Nat) (hn : n = l.length) (hm : n ≤ 9223372036854775807) (hi : Ints w b l) (hlen : len ≤ 1048576) (hc : CurAt w C a len cap) (hd : DataAt w C a len) :
    Calls Tryz.prog 65 #[.pointer (some ⟨C, 0, none⟩), .agg #[.slice b n cp]] w (AnyInt w C a len cap) := by
  have HC := Lib.hid hc
  have HD := Lib.hid hd
  have HN := Lib.hid hn
  have hCw : C < w.heap.size := hc.lt
  have HI := Lib.hid (ints_alloc hi (.cells #[.slice b n cp] 26))
  have HG0 := Lib.hid (World.grownBy_alloc w (.cells #[.slice b n cp] 26) (some C))
  have HCA := Lib.hid (HC.out.other (heap_alloc_old w (.cells #[.slice b n cp] 26) hCw))
  have C1 := newC w (.slice b n cp) 26 (n := w.heap.size) rfl
  have HOR := Lib.hid (sOrderOf _ b l n cp HN.out hm HI.out)
  have HL := Lib.hid (ordN_le l)
  clear hc hd hi hn
  obtain ⟨N, HNN⟩ : ∃ N, Hid (ordN l = N) := ⟨_, Lib.hid rfl⟩
  rw [HNN.out] at HOR HL
  have hN := HL.out
  go_enter Tryz.func65, Tryz.ntmps65
  go_wp2_with (go_at_call 30; refine HOR.out.mono ?_; rintro e w2 ⟨rfl, hb2⟩)
  all_goals
    have HG2 := Lib.hid (grownC_trans HG0.out (below_grown hb2 (row := some C)))
    have hC1 : C < (w.alloc (.cells #[.slice b n cp] 26)).heap.size := by simp; omega
    obtain ⟨M, HM⟩ : ∃ M : Int, Hid (max 1 N = M) := ⟨_, Lib.hid rfl⟩
    have hM1 : 1 ≤ M := by have := HM.out; omega
    have hM2 : M ≤ 24 := by have := HM.out; omega
    first | rw [HM.out] | rw [show N = M from by have := HM.out; omega] | rw [show (1 : Int) = M from by have := HM.out; omega]
    refine (below_small w2 C a len cap 6 hlen (HCA.out.other (hb2.block C hC1)) (HD.out.grown HG2.out) (by omega) (by omega)).mono ?_
    rintro e w3 ⟨x, rfl, hx0, hx1, hcur, hg⟩
    have HC3 := Lib.hid hcur
    have HG3 := Lib.hid (grownC_trans HG2.out hg)
    clear hcur hg hb2 HCA HOR
    go_wp2
    go_loopw [6, 7] (fun aa kk wr => ∃ (A : Nat) (k : Int), aa = .int .i64 (A : Nat) ∧ kk = .int .i64 k ∧ 0 ≤ k ∧ k ≤ 5 ∧ Hid (A < 16777216) ∧ CurAt wr C a len cap ∧ w.grownBy wr (some C)) (fun _ kk _ => (intOf kk).toNat)
    case atStart => exact ⟨0, x, rfl, rfl, hx0, by omega, Lib.hid (by decide), HC3.out, HG3.out⟩
    case round =>
      obtain ⟨A, k, rfl, rfl, hk0, hk5, HA, hcur, hg⟩ := hrel
      have HCr := Lib.hid hcur
      have HGr := Lib.hid hg
      clear hcur hg
      by_cases hk : 0 < k
      · go_wp2_with (fail)
        refine (below_small _ C a len cap M hlen HCr.out (HD.out.grown HGr.out) (by omega) (by omega)).mono ?_
        rintro e w5 ⟨y, rfl, hy0, hy1, hcur, hg⟩
        have HC5 := Lib.hid hcur
        have HG5 := Lib.hid (grownC_trans HGr.out hg)
        clear hcur hg
        have HOS := Lib.hid (or_step HA.out hy0 (by omega))
        have HA2 : Hid (A ||| 2 ^ y.toNat < 16777216) := Lib.hid (Nat.or_lt_two_pow (n := 24) HA.out (Nat.pow_lt_pow_right (by decide) (by omega)))
        go_wp2
        go_roundw
        case rel => exact ⟨A ||| 2 ^ y.toNat, k - 1, by rw [HOS.out], rfl, by omega, by omega, HA2, HC5.out, HG5.out⟩
        case measure => simp [intOf]; omega
      · go_wp2_with (fail)
        refine (below_small _ C a len cap 20 hlen HCr.out (HD.out.grown HGr.out) (by omega) (by omega)).mono ?_
        rintro e w5 ⟨y, rfl, hy0, hy1, hcur, hg⟩
        have HC5 := Lib.hid hcur
        have HG5 := Lib.hid (grownC_trans HGr.out hg)
        clear hcur hg
        by_cases h0 : y = 0
        · have e0 : (y == 0) = true := by simp [h0]
          obtain ⟨P, HP, hP1, hP2⟩ := pow_fit (k := M.toNat) (by omega)
          clear h0
          go_wp2
          go_ret
          exact ⟨_, rfl, by first | omega | (rw [HP]; omega), by first | omega | (rw [HP]; omega), HC5.out, HG5.out⟩
        · have e0 : (y == 0) = false := by simpa using h0
          by_cases h1 : y = 1
          · have e1 : (y == 1) = true := by simp [h1]
            clear h0 h1
            go_wp2_with (fail)
            refine (pick_any _ C a len cap w5.heap.size 3 3 hlen ?h1 ?h2 (by omega) (by omega) ?h3 ?h4).mono ?_
            case h1 => exact HC5.out.other (heap_alloc_old w5 _ HC5.out.lt)
            case h2 => exact (HD.out.grown HG5.out).grown (World.grownBy_alloc w5 _ _)
            case h3 => have := HC5.out.lt; omega
            case h4 =>
              intro i hi
              have : ∃ z : Int, -9223372036854775808 ≤ z ∧ z ≤ 9223372036854775807 ∧ (#[.int .i64 (-1), .int .i64 16777216, .int .i64 9223372036854775807] : Array Value)[i]? = some (.int .i64 z) := by
                match i, hi with
                | 0, _ => exact ⟨-1, by decide, by decide, rfl⟩
                | 1, _ => exact ⟨16777216, by decide, by decide, rfl⟩
                | 2, _ => exact ⟨9223372036854775807, by decide, by decide, rfl⟩
              obtain ⟨z, hz0, hz1, hz⟩ := this
              exact ⟨z, hz0, hz1, (World.cell?_alloc_at _ _ _ _ rfl).trans hz⟩
            rintro e w6 ⟨z, rfl, hz0, hz1, hcur, hg⟩
            have HC6 := Lib.hid hcur
            have HG6 := Lib.hid (grownC_trans (grownC_trans HG5.out (World.grownBy_alloc w5 _ _)) hg)
            clear hcur hg
            go_wp2
            go_ret
            exact ⟨_, rfl, hz0, hz1, HC6.out, HG6.out⟩
          · have e1 : (y == 1) = false := by simpa using h1
            clear h0 h1
            go_wp2
            go_ret
            exact ⟨_, rfl, by omega, by have := HA.out; omega, HC5.out, HG5.out⟩
end Go.Proofs.YtaacofbmbpkeoaaGreatDoor

namespace Go.Proofs.YtaacofbmbpkeoaaGreatDoor
open Go.RowKit
set_option maxRecDepth 1000000
abbrev nilG : Obj := .cells #[.slice none 0 0] 26
theorem below_newset {a w : World} {B : Nat} (h : Below B a w) {b : Nat} (hb : B ≤ b) (v : Value) : Below B a (w.setCell ⟨b, 0, none⟩ v) :=
  ⟨h.os, h.tape, h.output, by simpa using h.size, fun k hk => (heap_setCell_other w ⟨b, 0, none⟩ k v (fun e => by simp at e; omega)).trans (h.block k hk)⟩
/-- The result's variable in block w.heap.size, the cursor in the next one, the drawn group's row above. -/
structure MidG (w w3 : World) (a : Option Addr) (len cap : Nat) (au : Option Addr) (cu : Nat) (l : List Int) : Prop where
  cur : CurAt w3 (w.heap.size + 1) a len cap
  dat : DataAt w3 (w.heap.size + 1) a len
  res : w3.heap[w.heap.size]? = some (.cells #[.slice none 0 0] 26 (0, 0))
  own : w3.ownsRow (w.heap.size + 2) 3 1 (.slice au l.length cu) l.length (l.map (Value.int .i64))
  few : l.length ≤ 4
  bel : Below w.heap.size w w3
  lt : w.heap.size + 2 ≤ w3.heap.size
theorem MidG.grown {w w3 w4 : World} {a : Option Addr} {len cap : Nat} {au : Option Addr} {cu : Nat} {l : List Int} (m : MidG w w3 a len cap au cu l) (hc : CurAt w4 (w.heap.size + 1) a len cap) (hg : w3.grownBy w4 (some (w.heap.size + 1))) : MidG w w4 a len cap au cu l :=
  have hlt := m.lt
  ⟨hc, m.dat.grown hg, (hg.block _ (by omega) (by simp)).trans m.res, m.own.kept hg (.inr fun e => by have := (m.own.lt _ e).1; omega), m.few, m.bel.grown hg (by omega) (fun k hk => by cases hk; omega), Nat.le_trans m.lt hg.size⟩
theorem MidG.below {w w3 w4 : World} {a : Option Addr} {len cap : Nat} {au : Option Addr} {cu : Nat} {l : List Int} (m : MidG w w3 a len cap au cu l) (hb : Below w3.heap.size w3 w4) : MidG w w4 a len cap au cu l :=
  m.grown (m.cur.other (hb.block _ (by have := m.lt; omega))) (below_grown hb _)
theorem MidG.drew {w w3 : World} {a : Option Addr} {len cap : Nat} {au : Option Addr} {cu : Nat} {l : List Int} (m : MidG w w3 a len cap au cu l) : MidG w w3.drew a len cap au cu l :=
  m.grown m.cur ⟨rfl, rfl, rfl, Nat.le_refl _, fun _ _ _ => rfl⟩
theorem MidG.alloc {w w3 : World} {a : Option Addr} {len cap : Nat} {au : Option Addr} {cu : Nat} {l : List Int} (m : MidG w w3 a len cap au cu l) (c : Array Value) (t : TypeId) : MidG w (w3.alloc (.cells c t)) a len cap au cu l :=
  m.below (Joins.below_alloc1 _ _)
theorem MidG.ints {w w3 : World} {a : Option Addr} {len cap : Nat} {au : Option Addr} {cu : Nat} {l : List Int} (m : MidG w w3 a len cap au cu l) : Ints w3 au l := own_ints' rfl m.own
theorem MidG.apart {w w3 : World} {a : Option Addr} {len cap : Nat} {au : Option Addr} {cu : Nat} {l : List Int} (m : MidG w w3 a len cap au cu l) : ∀ x, au = some x → x.block ≠ w.heap.size + 1 := fun x e h => by
  subst e
  have := (m.own.lt x.block (by simp [Value.ownBlock])).1
  omega
theorem MidG.cells {w w3 : World} {a : Option Addr} {len cap : Nat} {au : Option Addr} {cu : Nat} {l : List Int} (m : MidG w w3 a len cap au cu l) : w3.cell? ⟨w.heap.size, 0, none⟩ = some (.slice none 0 0) ∧ w3.frozen? ⟨w.heap.size, 0, none⟩ = false := one_cell m.res
theorem MidG.finish {w w3 : World} {a : Option Addr} {len cap : Nat} {au : Option Addr} {cu : Nat} {l : List Int} (m : MidG w w3 a len cap au cu l) :
    (w3.setCell ⟨w.heap.size, 0, none⟩ (.slice au l.length cu)).ownsRow w.heap.size 3 1 (.slice au l.length cu) l.length (l.map (Value.int .i64)) ∧ Below w.heap.size w (w3.setCell ⟨w.heap.size, 0, none⟩ (.slice au l.length cu)) :=
  ⟨ownsRow_lower (ownsRow_setCell_below (a := ⟨w.heap.size, 0, none⟩) m.own (by show w.heap.size < _; omega) _) (by omega), below_newset m.bel (Nat.le_refl _) _⟩
/-- The cursor made, behind the result's variable. -/
theorem new_at (w : World) (a : Option Addr) (len cap : Nat) (hlen : len ≤ 1048576) (hd : CodeIn w a len) :
    Calls Tryz.prog 63 #[.slice a len cap] (w.alloc nilG) fun e w1 => e = .returned (.pointer (some ⟨w.heap.size + 1, 0, none⟩)) ∧ CurAt w1 (w.heap.size + 1) a len cap ∧ DataAt w1 (w.heap.size + 1) a len ∧ Below (w.heap.size + 1) (w.alloc nilG) w1 := by
  have h := new_any (w.alloc nilG) a len cap hlen (hd.below (Joins.below_alloc1 w nilG))
  have e : (w.alloc nilG).heap.size = w.heap.size + 1 := by simp
  unfold NewCur at h
  rw [e] at h
  exact h
/-- A group drawn with the new cursor. -/
theorem mid_of {w w1 w2 : World} {a : Option Addr} {len cap : Nat} {u : Value} {l : List Int} (hd : DataAt w1 (w.heap.size + 1) a len) (hb : Below (w.heap.size + 1) (w.alloc nilG) w1) (hc1 : CurAt w1 (w.heap.size + 1) a len cap)
    (ho : w2.ownsRow w1.heap.size 3 1 u l.length (l.map (Value.int .i64))) (hl : l.length ≤ 4) (hc : CurAt w2 (w.heap.size + 1) a len cap) (hg : w1.grownBy w2 (some (w.heap.size + 1))) :
    ∃ au cu, u = .slice au l.length cu ∧ MidG w w2 a len cap au cu l := by
  obtain ⟨au, cu, rfl⟩ := own_slice' rfl ho
  have h1 := hc1.lt
  have h2 := hg.size
  have hb0 : Below w.heap.size w w1 := (Joins.below_alloc1 w nilG).trans (hb.mono (by omega))
  refine ⟨au, cu, rfl, hc, hd.grown hg, ?_, ownsRow_lower ho (by omega), hl, hb0.grown hg (by omega) (fun k hk => by cases hk; omega), by omega⟩
  rw [hg.block _ (by omega) (by simp), hb.block _ (by omega)]
  exact heap_alloc_new w nilG
end Go.Proofs.YtaacofbmbpkeoaaGreatDoor

namespace Go.Proofs.YtaacofbmbpkeoaaGreatDoor
def pc8 (a : Nat) : Nat := a % 2 + a / 2 % 2 + a / 4 % 2 + a / 8 % 2 + a / 16 % 2 + a / 32 % 2 + a / 64 % 2 + a / 128 % 2
theorem and256 (u v p q : Nat) (hu : u < 256) (hp : p < 256) : (u + 256 * v) &&& (p + 256 * q) = (u &&& p) + 256 * (v &&& q) := by
  apply Nat.eq_of_testBit_eq
  intro i
  have h1 : u &&& p < 2 ^ 8 := Nat.lt_of_le_of_lt Nat.and_le_left hu
  have e : ∀ x y : Nat, x + 256 * y = 2 ^ 8 * y + x := fun x y => by omega
  rw [Nat.testBit_and, e, e, e, Nat.testBit_two_pow_mul_add _ (by omega : u < 2 ^ 8), Nat.testBit_two_pow_mul_add _ (by omega : p < 2 ^ 8), Nat.testBit_two_pow_mul_add _ h1]
  by_cases h : i < 8
  · simp [h]
  · simp [h]
/-- Three bytes. -/
def by3 (a b c : Nat) : Nat := a + 256 * (b + 256 * c)
theorem and3 (a b c p q : Nat) (ha : a < 256) (hb : b < 256) (hc : c < 256) (hp : p < 256) : by3 a b c &&& (p + 256 * (p + 256 * (p + 256 * q))) = by3 (a &&& p) (b &&& p) (c &&& p) := by
  unfold by3
  have h : c &&& (p + 256 * q) = c &&& p := by
    have := and256 c 0 p q hc hp
    simpa using this
  rw [and256 _ _ _ _ ha hp, and256 _ _ _ _ hb hp, h]
theorem s1_8 : ∀ a, a < 256 → ∀ r, r < 2 → ((a / 2 + 128 * r) &&& 85) = (a / 2 &&& 85) := by decide +kernel
theorem s2_8 : ∀ a, a < 256 → ∀ r, r < 4 → ((a / 4 + 64 * r) &&& 51) = (a / 4 &&& 51) := by decide +kernel
def f1 (a : Nat) : Nat := (a / 2 &&& 85) + (a &&& 85)
def f2 (a : Nat) : Nat := (a / 4 &&& 51) + (a &&& 51)
theorem f_all : ∀ a, a < 256 → f1 a < 256 ∧ f2 (f1 a) < 69 ∧ f2 (f1 a) % 16 ≤ 4 ∧ f2 (f1 a) / 16 ≤ 4 ∧ (f2 (f1 a) / 16 + f2 (f1 a)) % 16 = pc8 a := by decide +kernel
theorem pc8_le : ∀ a, a < 256 → pc8 a ≤ 8 := by decide +kernel
theorem and3' (M a b c p q : Nat) (hM : M = p + 256 * (p + 256 * (p + 256 * q))) (ha : a < 256) (hb : b < 256) (hc : c < 256) (hp : p < 256) : by3 a b c &&& M = by3 (a &&& p) (b &&& p) (c &&& p) := by
  rw [hM, and3 a b c p q ha hb hc hp]
theorem by3_half (a b c : Nat) : by3 a b c / 2 = by3 (a / 2 + 128 * (b % 2)) (b / 2 + 128 * (c % 2)) (c / 2) := by unfold by3; omega
theorem by3_add (a b c d e f : Nat) : by3 a b c + by3 d e f = by3 (a + d) (b + e) (c + f) := by unfold by3; omega
theorem st1 (a b c : Nat) (ha : a < 256) (hb : b < 256) (hc : c < 256) :
    (by3 a b c / 2 &&& 6148914691236517205) + (by3 a b c &&& 6148914691236517205) = by3 (f1 a) (f1 b) (f1 c) := by
  have u := and3' 6148914691236517205 (a / 2 + 128 * (b % 2)) (b / 2 + 128 * (c % 2)) (c / 2) 85 366503875925 (by decide) (by omega) (by omega) (by omega) (by decide)
  have v := and3' 6148914691236517205 a b c 85 366503875925 (by decide) ha hb hc (by decide)
  rw [by3_half, u, v, s1_8 a ha _ (by omega), s1_8 b hb _ (by omega), by3_add]
  rfl
theorem by3_quart (a b c : Nat) : by3 a b c / 4 = by3 (a / 4 + 64 * (b % 4)) (b / 4 + 64 * (c % 4)) (c / 4) := by unfold by3; omega
theorem st2 (a b c : Nat) (ha : a < 256) (hb : b < 256) (hc : c < 256) :
    (by3 a b c / 4 &&& 3689348814741910323) + (by3 a b c &&& 3689348814741910323) = by3 (f2 a) (f2 b) (f2 c) := by
  have u := and3' 3689348814741910323 (a / 4 + 64 * (b % 4)) (b / 4 + 64 * (c % 4)) (c / 4) 51 219902325555 (by decide) (by omega) (by omega) (by omega) (by decide)
  have v := and3' 3689348814741910323 a b c 51 219902325555 (by decide) ha hb hc (by decide)
  rw [by3_quart, u, v, s2_8 a ha _ (by omega), s2_8 b hb _ (by omega), by3_add]
  rfl
theorem by3_six (a b c : Nat) : by3 a b c / 16 + by3 a b c = by3 (a / 16 + a + 16 * (b % 16)) (b / 16 + b + 16 * (c % 16)) (c / 16 + c) := by unfold by3; omega
theorem st3 (a b c : Nat) (ha : a < 69) (hb : b < 69) (_hc : c < 69) (_a4 : a / 16 ≤ 4) (_b4 : b / 16 ≤ 4) (c4 : c / 16 ≤ 4) (a5 : a % 16 ≤ 4) (b5 : b % 16 ≤ 4) (c5 : c % 16 ≤ 4) :
    (by3 a b c / 16 + by3 a b c) &&& 1085102592571150095 = by3 ((a / 16 + a) % 16) ((b / 16 + b) % 16) ((c / 16 + c) % 16) := by
  have u := and3' 1085102592571150095 (a / 16 + a + 16 * (b % 16)) (b / 16 + b + 16 * (c % 16)) (c / 16 + c) 15 64677154575 (by decide) (by omega) (by omega) (by omega) (by decide)
  have h15 : ∀ x : Nat, x &&& 15 = x % 16 := fun x => Nat.and_two_pow_sub_one_eq_mod x 4
  rw [by3_six, u, h15, h15, h15, show (a / 16 + a + 16 * (b % 16)) % 16 = (a / 16 + a) % 16 by omega, show (b / 16 + b + 16 * (c % 16)) % 16 = (b / 16 + b) % 16 by omega]
theorem by3_lt {a b c : Nat} (ha : a < 256) (hb : b < 256) (hc : c < 256) : by3 a b c < 16777216 := by unfold by3; omega
theorem st4 (A B C : Nat) (hA : A ≤ 8) (hB : B ≤ 8) (hC : C ≤ 8) :
    by3 A B C + by3 A B C / 256 < 33554432 ∧ (by3 A B C + by3 A B C / 256) + (by3 A B C + by3 A B C / 256) / 65536 < 33554432 ∧
    ((by3 A B C + by3 A B C / 256) + (by3 A B C + by3 A B C / 256) / 65536) % 128 = A + B + C := by
  have h1 : by3 A B C / 256 = B + 256 * C := by unfold by3; omega
  have h2 : by3 A B C + (B + 256 * C) = (A + B) + 256 * (B + C) + 65536 * C := by unfold by3; omega
  rw [h1, h2]
  have h3 : ((A + B) + 256 * (B + C) + 65536 * C) / 65536 = C := by omega
  rw [h3]
  omega
/-- The library's count of bits of a number below 2^24. -/
theorem ones24 (x y1 y2 y3 y4 y5 y6 : Nat) (hx : x < 16777216) (e1 : y1 = (x / 2 &&& 6148914691236517205) + (x &&& 6148914691236517205)) (e2 : y2 = (y1 / 4 &&& 3689348814741910323) + (y1 &&& 3689348814741910323))
    (e3 : y3 = (y2 / 16 + y2) &&& 1085102592571150095) (e4 : y4 = y3 + y3 / 256) (e5 : y5 = y4 + y4 / 65536) (e6 : y6 = y5 + y5 / 4294967296) :
    y1 < 16777216 ∧ y2 < 16777216 ∧ y3 < 16777216 ∧ y4 < 33554432 ∧ y5 < 33554432 ∧ y6 < 33554432 ∧ y6 &&& 127 = pc8 (x % 256) + pc8 (x / 256 % 256) + pc8 (x / 65536) := by
  have la : x % 256 < 256 := by omega
  have lb : x / 256 % 256 < 256 := by omega
  have lc : x / 65536 < 256 := by omega
  have hX : x = by3 (x % 256) (x / 256 % 256) (x / 65536) := by unfold by3; omega
  generalize x % 256 = a at *
  generalize x / 256 % 256 = b at *
  generalize x / 65536 = c at *
  obtain ⟨a1, a2, a3, a4, a5⟩ := f_all a la
  obtain ⟨b1, b2, b3, b4, b5⟩ := f_all b lb
  obtain ⟨c1, c2, c3, c4, c5⟩ := f_all c lc
  have pa := pc8_le a la
  have pb := pc8_le b lb
  have pc := pc8_le c lc
  rw [hX, st1 a b c la lb lc] at e1
  rw [e1, st2 _ _ _ a1 b1 c1] at e2
  rw [e2, st3 _ _ _ a2 b2 c2 a4 b4 c4 a3 b3 c3, a5, b5, c5] at e3
  have h127 : y6 &&& 127 = y6 % 128 := Nat.and_two_pow_sub_one_eq_mod y6 7
  rw [h127]
  obtain ⟨g1, g2, g3⟩ := st4 _ _ _ pa pb pc
  rw [← e3] at g1 g2 g3
  rw [← e4] at g1 g2 g3
  rw [← e5] at g2 g3
  have h6 : y6 = y5 := by rw [e6, Nat.div_eq_of_lt (Nat.lt_trans g2 (by decide)), Nat.add_zero]
  rw [h6, g3]
  refine ⟨?_, ?_, ?_, g1, g2, g2, rfl⟩
  · rw [e1]; exact by3_lt a1 b1 c1
  · rw [e2]; exact by3_lt (Nat.lt_trans a2 (by decide)) (Nat.lt_trans b2 (by decide)) (Nat.lt_trans c2 (by decide))
  · rw [e3]; exact by3_lt (Nat.lt_of_le_of_lt pa (by decide)) (Nat.lt_of_le_of_lt pb (by decide)) (Nat.lt_of_le_of_lt pc (by decide))
/-- The count by bytes is the number of bits. -/
theorem upK_cnt (a k : Nat) : (upK a (k + 1)).length = (upK a k).length + a / 2 ^ k % 2 := by
  rw [upK_succ]
  by_cases hb : a.testBit k = true
  · rw [if_pos hb, (bit_iff a k).1 hb]; simp
  · rw [if_neg hb]
    have : ¬ a / 2 ^ k % 2 = 1 := fun e => hb ((bit_iff a k).2 e)
    have : a / 2 ^ k % 2 = 0 := by omega
    omega
theorem upK_byte (a k : Nat) : (upK a (k + 8)).length = (upK a k).length + pc8 (a / 2 ^ k % 256) := by
  have e : ∀ i, a / 2 ^ (k + i) = a / 2 ^ k / 2 ^ i := fun i => by rw [Nat.pow_add, Nat.div_div_eq_div_mul]
  rw [show k + 8 = k + 7 + 1 from rfl, upK_cnt, show k + 7 = k + 6 + 1 from rfl, upK_cnt, show k + 6 = k + 5 + 1 from rfl, upK_cnt, show k + 5 = k + 4 + 1 from rfl, upK_cnt,
    show k + 4 = k + 3 + 1 from rfl, upK_cnt, show k + 3 = k + 2 + 1 from rfl, upK_cnt, show k + 2 = k + 1 + 1 from rfl, upK_cnt, upK_cnt]
  rw [show k + 1 + 1 + 1 + 1 + 1 + 1 + 1 = k + 7 from rfl, show k + 1 + 1 + 1 + 1 + 1 + 1 = k + 6 from rfl, show k + 1 + 1 + 1 + 1 + 1 = k + 5 from rfl, show k + 1 + 1 + 1 + 1 = k + 4 from rfl,
    show k + 1 + 1 + 1 = k + 3 from rfl, show k + 1 + 1 = k + 2 from rfl, e 7, e 6, e 5, e 4, e 3, e 2, e 1]
  generalize a / 2 ^ k = b
  generalize (upK a k).length = c
  simp only [Nat.reducePow]
  unfold pc8
  omega
theorem bits_len (a : Nat) (h : a < 16777216) : (bitsN a).length = pc8 (a % 256) + pc8 (a / 256 % 256) + pc8 (a / 65536) := by
  unfold bitsN
  rw [show (24 : Nat) = 0 + 8 + 8 + 8 from rfl, upK_byte, upK_byte, upK_byte, upK_zero]
  have e1 : a / 2 ^ 0 % 256 = a % 256 := by simp
  have e2 : a / 2 ^ (0 + 8) % 256 = a / 256 % 256 := by simp
  have e3 : a / 2 ^ (0 + 8 + 8) % 256 = a / 65536 := by
    rw [show (2 : Nat) ^ (0 + 8 + 8) = 65536 from rfl]; omega
  rw [e1, e2, e3, List.length_nil, Nat.zero_add]
end Go.Proofs.YtaacofbmbpkeoaaGreatDoor
