/- Merged: DGrp DGrp2 DGrp4 QK QKB SumC SumSpec2. -/
import Derived.Test.YtaacofbmbpkeoaaGreatDoorMGAF
import Derived.Deep.RegionHeld3
import Derived.Deep.LoopGhost
import Derived.Deep.Draws
import Derived.Deep.QuietTactic
import Derived.Shelf.RegionOpenPlain
import Derived.Test.YtaacofbmbpkeoaaGreatDoorMGAH
import Derived.Test.YtaacofbmbpkeoaaGreatDoorKnI
import Derived.Test.YtaacofbmbpkeoaaGreatDoorKnSpec2
import Derived.Test.YtaacofbmbpkeoaaGreatDoorMGAL
import Derived.Test.YtaacofbmbpkeoaaGreatDoorMGAR
namespace Go.Proofs.YtaacofbmbpkeoaaGreatDoor
open Go.RowKit
set_option maxRecDepth 1000000
/-- A drawn group, in the results. -/
def DGrp (w : World) (u : Value) (l : List Int) (w' : World) : Prop := w'.ownsRow w.heap.size 3 1 u l.length (l.map (Value.int .i64)) ∧ l.length ≤ 4 ∧ Below w.heap.size w w'
def DrawnGI (w : World) (e : Ending) (w' : World) : Prop := ∃ (u : Value) (l : List Int) (x : Int), e = .returned (.tuple #[.agg #[u], .int .i64 x]) ∧ -9223372036854775808 ≤ x ∧ x ≤ 9223372036854775807 ∧ DGrp w u l w'
end Go.Proofs.YtaacofbmbpkeoaaGreatDoor

namespace Go.Proofs.YtaacofbmbpkeoaaGreatDoor
open Go.RowKit
set_option maxRecDepth 1000000
/-- A result's variable, the drawn group in another one. -/
theorem hand_on {w w1 : World} {u : Value} {l : List Int} (hb : Below w.heap.size w w1) (h : w1.ownsRow (w.heap.size + 1) 3 1 u l.length (l.map (Value.int .i64))) :
    (w1.setCell ⟨w.heap.size, 0, none⟩ u).ownsRow w.heap.size 3 1 u l.length (l.map (Value.int .i64)) ∧ Below w.heap.size w (w1.setCell ⟨w.heap.size, 0, none⟩ u) :=
  ⟨ownsRow_lower (ownsRow_setCell_below (a := ⟨w.heap.size, 0, none⟩) h (by show w.heap.size < _; omega) _) (by omega), below_newset hb (Nat.le_refl _) _⟩
end Go.Proofs.YtaacofbmbpkeoaaGreatDoor

namespace Go.Proofs.YtaacofbmbpkeoaaGreatDoor
open Go.RowKit
set_option maxRecDepth 1000000
theorem big_no (w : World) (a : Option Addr) (len cap : Nat) (h : len ≤ 1048576) :
    Calls Tryz.prog 5 #[.slice a len cap] w fun e w' => e = .returned (.bool false) ∧ w = w' := by
  have h1 : ¬ (1048576 : Int) < (len : Int) := by omega
  go_enter Tryz.func5, Tryz.ntmps5
  go_wp2
  go_ret
  exact ⟨by first | rfl | (simp; done) | (simp; omega), rfl⟩
theorem big_yes (w : World) (a : Option Addr) (len cap : Nat) (h : 1048576 < len) :
    Calls Tryz.prog 5 #[.slice a len cap] w fun e w' => e = .returned (.bool true) ∧ w = w' := by
  have h1 : (1048576 : Int) < (len : Int) := by omega
  go_enter Tryz.func5, Tryz.ntmps5
  go_wp2
  go_ret
  exact ⟨by first | rfl | (simp; done) | (simp; omega), rfl⟩
set_option maxHeartbeats 4000000 in
/-- Two readings of one list are the same. -/
theorem sameInts_same (w : World) (a b : Option Addr) (p : List Int) (n ca cb : Nat) (hn : n = p.length) (hm : n ≤ 1048576) (hi : Ints w a p) (hj : Ints w b p) :
    Calls Tryz.prog 10 #[.slice a n ca, .slice b n cb] w fun e w' => e = .returned (.bool true) ∧ Below w.heap.size w w' := by
  have HI := Lib.hid hi
  have HJ := Lib.hid hj
  have HN := Lib.hid hn
  clear hi hj hn
  have mixed : Tryz.prog.follows .mixedOrders = true := by rfl
  go_enter Tryz.func10, Tryz.ntmps10
  go_wp2
  go_loopw [5] (fun i wr => ∃ k : Nat, i = .int .i64 k ∧ k ≤ n ∧ Below w.heap.size w wr) (fun i _ => n - (intOf i).toNat)
  case atStart => exact ⟨0, rfl, by omega, Below.refl _ _⟩
  case round =>
    obtain ⟨k, rfl, h1, hbel⟩ := hrel
    by_cases hk : k < n
    · have hkl : k < p.length := by have := HN.out; omega
      have HBL := Lib.hid hbel
      have r1 : ∃ ba oa, a = some ⟨ba, oa, none⟩ ∧ ∀ q, (wr.drewN q).cell? ⟨ba, oa + k, none⟩ = some (.int .i64 (p.getD k 0)) := by
        rcases HI.out with h0 | ⟨ba, oa, ha, hbl, hc⟩
        · rw [h0] at hkl; simp at hkl
        · exact ⟨ba, oa, ha, fun q => by simpa using keepC hbel hbl (hc k hkl)⟩
      have r2 : ∃ bb ob, b = some ⟨bb, ob, none⟩ ∧ ∀ q, (wr.drewN q).cell? ⟨bb, ob + k, none⟩ = some (.int .i64 (p.getD k 0)) := by
        rcases HJ.out with h0 | ⟨ba, oa, ha, hbl, hc⟩
        · rw [h0] at hkl; simp at hkl
        · exact ⟨ba, oa, ha, fun q => by simpa using keepC hbel hbl (hc k hkl)⟩
      obtain ⟨ba, oa, rfl, la⟩ := r1
      obtain ⟨bb, ob, rfl, lb⟩ := r2
      obtain ⟨x, hx⟩ : ∃ x, p.getD k 0 = x := ⟨_, rfl⟩
      rw [hx] at la lb
      have ea : ((k : Int)).toNat = k := by omega
      have pa : (0 : Int) ≤ (k : Int) := by omega
      have pb : (k : Int) < (n : Int) := by omega
      clear hx hbel hkl
      go_wp2_with fail
      go_quiet_o (fail)
      clear la lb ea
      go_wp2
      go_roundw
      case rel => exact ⟨k + 1, by go_num, by omega, ⟨HBL.out.os, HBL.out.tape, HBL.out.output, HBL.out.size, HBL.out.block⟩⟩
      case measure => simp [intOf]; omega
    · obtain rfl : k = n := by omega
      have HBL := Lib.hid hbel
      clear hbel
      go_wp2
      go_ret
      exact ⟨rfl, HBL.out⟩
end Go.Proofs.YtaacofbmbpkeoaaGreatDoor

namespace Go.Proofs.YtaacofbmbpkeoaaGreatDoor
open Go.RowKit
set_option maxRecDepth 1000000
theorem On.tabE {W0 W : World} {B : Nat} (o : On W0 W) (hB : B ≤ W0.heap.size) (h : TabE B W0) : TabE B W := h.on (Below.mono o hB)
theorem qsKn {W0 W : World} {au : Option Addr} {cu : Nat} {l : List Int} {x y : Int} (hi : Ints W0 au l) (hl : l.length ≤ 4) (o : On W0 W) :
    Calls Tryz.prog 13 #[.agg #[.slice au l.length cu], .int .i64 x, .int .i64 y] W fun e w' => e = .returned (.int .i64 (knE l x y)) ∧ On W0 w' :=
  (sKn W au l _ cu x y rfl (by omega) (o.ints hi)).mono fun _ _ h => ⟨h.1, o.step h.2⟩
theorem qiKn {W0 W : World} {au : Option Addr} {cu : Nat} {l : List Int} {x y : Int} {B : Nat} (hi : Ints W0 au l) (hl : l.length ≤ 4) (hB : B ≤ W0.heap.size) (ht : TabE B W0) (o : On W0 W) :
    Calls Tryz.prog 12 #[.agg #[.slice au l.length cu], .int .i64 x, .int .i64 y] W fun e w' => e = .returned (.int .i64 (knE l x y)) ∧ On W0 w' :=
  (iKn W au l _ cu x y rfl (by omega) (o.ints hi) B (Nat.le_trans hB (Below.size o)) (o.tabE hB ht)).mono fun _ _ h => ⟨h.1, o.step h.2⟩
theorem qsTgt {W0 W : World} {au : Option Addr} {cu : Nat} {l : List Int} {x y : Int} (hi : Ints W0 au l) (hl : l.length ≤ 4) (o : On W0 W) :
    Calls Tryz.prog 37 #[.agg #[.slice au l.length cu], .int .i64 x, .int .i64 y] W fun e w' => e = .returned (.bool (tgtB l x y)) ∧ On W0 w' :=
  (sTgt W au l _ cu x y rfl (by omega) (o.ints hi)).mono fun _ _ h => ⟨h.1, o.step h.2⟩
theorem qiTgt {W0 W : World} {au : Option Addr} {cu : Nat} {l : List Int} {x y : Int} {B : Nat} (hi : Ints W0 au l) (hl : l.length ≤ 4) (hB : B ≤ W0.heap.size) (ht : TabE B W0) (o : On W0 W) :
    Calls Tryz.prog 18 #[.agg #[.slice au l.length cu], .int .i64 x, .int .i64 y] W fun e w' => e = .returned (.bool (tgtB l x y)) ∧ On W0 w' :=
  (iTgt W au l _ cu x y rfl (by omega) (o.ints hi) B (Nat.le_trans hB (Below.size o)) (o.tabE hB ht)).mono fun _ _ h => ⟨h.1, o.step h.2⟩
theorem qsCau {W0 W : World} {au : Option Addr} {cu : Nat} {l : List Int} {x y : Int} (hi : Ints W0 au l) (hl : l.length ≤ 4) (o : On W0 W) :
    Calls Tryz.prog 26 #[.agg #[.slice au l.length cu], .int .i64 x, .int .i64 y] W fun e w' => e = .returned (.int .i64 (cauE l x y)) ∧ On W0 w' :=
  (sCau W au l _ cu x y rfl (by omega) (o.ints hi)).mono fun _ _ h => ⟨h.1, o.step h.2⟩
theorem qiCau {W0 W : World} {au : Option Addr} {cu : Nat} {l : List Int} {x y : Int} {B : Nat} (hi : Ints W0 au l) (hl : l.length ≤ 4) (hB : B ≤ W0.heap.size) (ht : TabE B W0) (o : On W0 W) :
    Calls Tryz.prog 25 #[.agg #[.slice au l.length cu], .int .i64 x, .int .i64 y] W fun e w' => e = .returned (.int .i64 (cauE l x y)) ∧ On W0 w' :=
  (iCau W au l _ cu x y rfl (by omega) (o.ints hi) B (Nat.le_trans hB (Below.size o)) (o.tabE hB ht)).mono fun _ _ h => ⟨h.1, o.step h.2⟩
theorem qsCho {W0 W : World} {au : Option Addr} {cu : Nat} {l : List Int} {x y : Int} (hi : Ints W0 au l) (hl : l.length ≤ 4) (o : On W0 W) :
    Calls Tryz.prog 29 #[.agg #[.slice au l.length cu], .int .i64 x, .int .i64 y] W fun e w' => e = .returned (.bool (choB l x y)) ∧ On W0 w' :=
  (sCho W au l _ cu x y rfl (by omega) (o.ints hi)).mono fun _ _ h => ⟨h.1, o.step h.2⟩
theorem qiCho {W0 W : World} {au : Option Addr} {cu : Nat} {l : List Int} {x y : Int} {B : Nat} (hi : Ints W0 au l) (hl : l.length ≤ 4) (hB : B ≤ W0.heap.size) (ht : TabE B W0) (o : On W0 W) :
    Calls Tryz.prog 28 #[.agg #[.slice au l.length cu], .int .i64 x, .int .i64 y] W fun e w' => e = .returned (.bool (choB l x y)) ∧ On W0 w' :=
  (iCho W au l _ cu x y rfl (by omega) (o.ints hi) B (Nat.le_trans hB (Below.size o)) (o.tabE hB ht)).mono fun _ _ h => ⟨h.1, o.step h.2⟩
theorem qsDfc {W0 W : World} {au : Option Addr} {cu : Nat} {l : List Int} {x y : Int} (hi : Ints W0 au l) (hl : l.length ≤ 4) (o : On W0 W) :
    Calls Tryz.prog 36 #[.agg #[.slice au l.length cu], .int .i64 x, .int .i64 y] W fun e w' => e = .returned (.int .i64 (dfcE l x y)) ∧ On W0 w' :=
  (sDfc W au l _ cu x y rfl (by omega) (o.ints hi)).mono fun _ _ h => ⟨h.1, o.step h.2⟩
theorem qiDfc {W0 W : World} {au : Option Addr} {cu : Nat} {l : List Int} {x y : Int} {B : Nat} (hi : Ints W0 au l) (hl : l.length ≤ 4) (hB : B ≤ W0.heap.size) (ht : TabE B W0) (o : On W0 W) :
    Calls Tryz.prog 35 #[.agg #[.slice au l.length cu], .int .i64 x, .int .i64 y] W fun e w' => e = .returned (.int .i64 (dfcE l x y)) ∧ On W0 w' :=
  (iDfc W au l _ cu x y rfl (by omega) (o.ints hi) B (Nat.le_trans hB (Below.size o)) (o.tabE hB ht)).mono fun _ _ h => ⟨h.1, o.step h.2⟩
theorem qsKp {W0 W : World} {au : Option Addr} {cu : Nat} {l : List Int} {x y : Int} (hi : Ints W0 au l) (hl : l.length ≤ 4) (o : On W0 W) :
    Calls Tryz.prog 34 #[.agg #[.slice au l.length cu], .int .i64 x, .int .i64 y] W fun e w' => e = .returned (.tuple #[.int .i64 (kpH l x y), .int .i64 (kpA l x y), .int .i64 (kpB l x y), .bool (neB l x y)]) ∧ On W0 w' :=
  (sKp W au l _ cu x y rfl (by omega) (o.ints hi)).mono fun _ _ h => ⟨h.1, o.step h.2⟩
theorem qiKp {W0 W : World} {au : Option Addr} {cu : Nat} {l : List Int} {x y : Int} {B : Nat} (hi : Ints W0 au l) (hl : l.length ≤ 4) (hB : B ≤ W0.heap.size) (ht : TabE B W0) (o : On W0 W) :
    Calls Tryz.prog 14 #[.agg #[.slice au l.length cu], .int .i64 x, .int .i64 y] W fun e w' => e = .returned (.tuple #[.int .i64 (kpH l x y), .int .i64 (kpA l x y), .int .i64 (kpB l x y), .bool (neB l x y)]) ∧ On W0 w' :=
  (iKp W au l _ cu x y rfl (by omega) (o.ints hi) B (Nat.le_trans hB (Below.size o)) (o.tabE hB ht)).mono fun _ _ h => ⟨h.1, o.step h.2⟩
end Go.Proofs.YtaacofbmbpkeoaaGreatDoor

namespace Go.Proofs.YtaacofbmbpkeoaaGreatDoor
open Go.RowKit
theorem qbSum {W0 W : World} {au : Option Addr} {cu : Nat} {l : List Int} {x y : Int} (hi : Ints W0 au l) (hl : l.length ≤ 4) (o : On W0 W) :
    Calls Tryz.prog 9 #[.agg #[.slice au l.length cu], .int .i64 x, .int .i64 y] W fun e w' => e = .returned (.int .i64 (sumE l x y)) ∧ On W0 w' :=
  (sSum W au l _ cu x y rfl (by omega) (o.ints hi)).mono fun _ _ h => ⟨h.1, o.step h.2⟩
theorem qbCns {W0 W : World} {au : Option Addr} {cu : Nat} {l : List Int} {x : Int} (hi : Ints W0 au l) (hl : l.length ≤ 4) (o : On W0 W) :
    Calls Tryz.prog 15 #[.agg #[.slice au l.length cu], .int .i64 x] W fun e w' => e = .returned (.int .i64 (cntE l x)) ∧ On W0 w' :=
  (sCount W au l _ cu x rfl (by omega) (o.ints hi)).mono fun _ _ h => ⟨h.1, o.step h.2⟩
theorem qsOrd {W0 W : World} {au : Option Addr} {cu : Nat} {l : List Int} (hi : Ints W0 au l) (hl : l.length ≤ 4) (o : On W0 W) :
    Calls Tryz.prog 30 #[.agg #[.slice au l.length cu]] W fun e w' => e = .returned (.int .i64 (ordN l)) ∧ On W0 w' :=
  (sOrderOf W au l _ cu  rfl (by omega) (o.ints hi)).mono fun _ _ h => ⟨h.1, o.step h.2⟩
end Go.Proofs.YtaacofbmbpkeoaaGreatDoor

namespace Go.Proofs.YtaacofbmbpkeoaaGreatDoor
open Go.RowKit
set_option maxRecDepth 1000000
set_option maxHeartbeats 4000000 in
theorem iCntS (w : World) (a : Option Addr) (l : List Int) (n cap : Nat) (s t x : Int) (hn : n = l.length) (hm : n ≤ 9223372036854775807) (hi : Ints w a l) (B : Nat) (hB0 : B ≤ w.heap.size) (ht : TabZ B w) :
    Calls Tryz.prog 23 #[.agg #[.slice a n cap], .int .i64 s, .int .i64 t, .int .i64 x] w fun e w' => e = .returned (.int .i64 (cntS l s t x)) ∧ Below w.heap.size w w' := by
  have HTZ := Lib.hid ht
  clear ht
  have HI := Lib.hid (ints_alloc hi (.cells #[.slice a n cap] 26))
  have HN := Lib.hid hn
  have C1 := newC w (.slice a n cap) 26 (n := w.heap.size) rfl
  have HB := Lib.hid (Joins.below_alloc1 w (.cells #[.slice a n cap] 26))
  have T0 := Lib.hid (Below.refl (w.alloc (.cells #[.slice a n cap] 26)).heap.size (w.alloc (.cells #[.slice a n cap] 26)))
  clear hi hn
  cases hs : two l s t with
  | false =>
    have HS := Lib.hid hs
    rw [show cntS l s t x = -1 by unfold cntS; rw [if_neg (by simp [hs])]]
    clear hs
    go_enter Tryz.func23, Tryz.ntmps23
    go_wp2_with (go_at_call 39; refine (iSetsIn_no _ _ _ _ _ _ _ HN.out hm (HI.out.below rfl T0.out) HS.out).mono ?_; rintro e w1 ⟨p, q, r, u, v, rfl, hb1⟩)
    go_ret
    exact ⟨rfl, HB.out.trans (Below.alloc (hb1.mono (by simp)) (Nat.le_trans (by simp) hb1.size) _)⟩
  | true =>
    have HS := Lib.hid hs
    obtain ⟨hg, s, t, rfl, rfl, hsn, htn⟩ := two_true hs
    have HT := Lib.hid (tri_grp hg)
    have HP := prod_pad (grpB_true hg).1
    have HVG : Hid (∀ x : Nat, (x : Int) < prodI l → cntS l s t x = (((bitsN (s &&& movN l (ngN l t) x)).length : Nat) : Int)) := Lib.hid (fun x hx => by
      unfold cntS
      rw [if_pos ⟨hs, by omega, hx⟩]
      show ((parN l (bitsN s) (bitsN t) x : Nat) : Int) = _
      rw [count_par hg hsn htn hx])
    have HNO : Hid (∀ x, (x < 0 ∨ prodI l ≤ x) → cntS l s t x = -1) := Lib.hid (fun x hx => by unfold cntS; rw [if_neg (fun h => by have h1 := h.2.1; have h2 := h.2.2; omega)])
    have HDL : Hid (orF (dilF (l.getD 0 1) (l.getD 1 1) (l.getD 2 1) (-1)) (bitsN t) = ngN l t) := Lib.hid (dl_tri hg (-1) (bitsN t)).symm
    have HUL : Hid (ngN l t < 2 ^ (prodI l).toNat) := Lib.hid (ngN_lt hg t)
    have HGV : Hid (∀ t x, shG (l.getD 0 1) (l.getD 1 1) (l.getD 2 1) t x = movN l t x) := Lib.hid (fun t x => shG_mov hg t x)
    have HVL : Hid (∀ x, movN l (ngN l t) x < 2 ^ (prodI l).toNat) := Lib.hid (fun x => movN_lt hg _ x)
    rw [HP] at hsn htn HVG HNO HUL HVL
    obtain ⟨p, EP⟩ : ∃ p, Hid (l.getD 0 1 = p) := ⟨_, Lib.hid rfl⟩
    obtain ⟨q, EQ⟩ : ∃ q, Hid (l.getD 1 1 = q) := ⟨_, Lib.hid rfl⟩
    obtain ⟨r, ER⟩ : ∃ r, Hid (l.getD 2 1 = r) := ⟨_, Lib.hid rfl⟩
    rw [EP.out, EQ.out, ER.out] at HT hsn htn HVG HNO HDL HUL HGV HVL
    have HA := Lib.hid hsn
    have HC : Hid (t < 16777216) := Lib.hid (tri_pow HT.out htn)
    obtain ⟨u, HU⟩ : ∃ u, Hid (ngN l t = u) := ⟨_, Lib.hid rfl⟩
    rw [HU.out] at HVG HDL HUL HVL
    clear hs hg HP hsn htn
    have hpq1 := HT.out.pqr1
    have hpq2 := HT.out.pqr2
    by_cases h0 : x < 0
    · rw [HNO.out x (.inl h0)]
      go_enter Tryz.func23, Tryz.ntmps23
      go_wp2_with (go_at_call 39; refine (iSetsIn_yes _ _ _ _ _ _ _ HN.out hm (HI.out.below rfl T0.out) HS.out).mono ?_; rw [EP.out, EQ.out, ER.out]; rintro e w1 ⟨rfl, hb1⟩; have TA := Lib.hid ((HB.out.trans (hb1.mono (by simp))).alloc (Nat.le_trans (by simp) hb1.size) (.cells #[.int .i64 p, .int .i64 q, .int .i64 r] 41)); have RY := Lib.hid (heap_alloc_new w1 (.cells #[.int .i64 p, .int .i64 q, .int .i64 r] 41)); obtain ⟨y0, y1, y2, _, _, _⟩ := trip_cell RY.out)
      go_ret
      exact ⟨rfl, TA.out⟩
    · have h0' : 0 ≤ x := by omega
      by_cases h1 : p * q * r ≤ x
      · rw [HNO.out x (.inr h1)]
        clear h0
        go_enter Tryz.func23, Tryz.ntmps23
        go_wp2_with (first | (go_at_call 59; refine (iProduct _ _ _ _ HT.out).mono ?_; rintro e w2 ⟨rfl, hb2⟩; have TB := Lib.hid (TA.out.trans (hb2.mono TA.out.size)); have RZ := Lib.hid (keepH hb2 (by simp) RY.out); obtain ⟨z0, z1, z2, _, _, _⟩ := trip_cell RZ.out) | (go_at_call 39; refine (iSetsIn_yes _ _ _ _ _ _ _ HN.out hm (HI.out.below rfl T0.out) HS.out).mono ?_; rw [EP.out, EQ.out, ER.out]; rintro e w1 ⟨rfl, hb1⟩; have TA := Lib.hid ((HB.out.trans (hb1.mono (by simp))).alloc (Nat.le_trans (by simp) hb1.size) (.cells #[.int .i64 p, .int .i64 q, .int .i64 r] 41)); have RY := Lib.hid (heap_alloc_new w1 (.cells #[.int .i64 p, .int .i64 q, .int .i64 r] 41)); obtain ⟨y0, y1, y2, _, _, _⟩ := trip_cell RY.out))
        go_ret
        exact ⟨rfl, TB.out⟩
      · have h1' : x < p * q * r := by omega
        obtain ⟨x, rfl⟩ : ∃ y : Nat, x = (y : Int) := ⟨x.toNat, by omega⟩
        rw [HVG.out x h1']
        have HXN := Lib.hid h1'
        have hvl := HVL.out x
        obtain ⟨V, HV⟩ : ∃ V, Hid (movN l u x = V) := ⟨_, Lib.hid rfl⟩
        rw [HV.out] at hvl
        rw [HV.out]
        have HSH : Hid (shG p q r u x = V) := Lib.hid (by rw [HGV.out, HV.out])
        have han := andU s V (s &&& V) (lt24 (tri_pow HT.out HA.out)) (by have := lt24 (tri_pow HT.out hvl); omega) rfl
        have hAl : s &&& V < 16777216 := Nat.lt_of_le_of_lt Nat.and_le_left (lt24 (tri_pow HT.out HA.out))
        obtain ⟨A, HAA⟩ : ∃ A, Hid (s &&& V = A) := ⟨_, Lib.hid rfl⟩
        rw [HAA.out] at han hAl
        rw [HAA.out]
        have HAL := Lib.hid hAl
        obtain ⟨L, HLL⟩ : ∃ L, Hid ((bitsN A).length = L) := ⟨_, Lib.hid rfl⟩
        rw [HLL.out]
        have hm1 : (-100 : Int) ≤ -1 := by decide
        have hm2 : (-1 : Int) ≤ 100 := by decide
        have HM1 := Lib.hid hm1
        have HM2 := Lib.hid hm2
        clear h0 h1 hvl hAl hm1 hm2
        go_enter Tryz.func23, Tryz.ntmps23
        go_wp2_with (first | (go_at_call 59; refine (iProduct _ _ _ _ HT.out).mono ?_; rintro e w2 ⟨rfl, hb2⟩; have TB := Lib.hid (TA.out.trans (hb2.mono TA.out.size)); have RZ := Lib.hid (keepH hb2 (by simp) RY.out); obtain ⟨z0, z1, z2, _, _, _⟩ := trip_cell RZ.out) | (go_at_call 39; refine (iSetsIn_yes _ _ _ _ _ _ _ HN.out hm (HI.out.below rfl T0.out) HS.out).mono ?_; rw [EP.out, EQ.out, ER.out]; rintro e w1 ⟨rfl, hb1⟩; have TA := Lib.hid ((HB.out.trans (hb1.mono (by simp))).alloc (Nat.le_trans (by simp) hb1.size) (.cells #[.int .i64 p, .int .i64 q, .int .i64 r] 41)); have RY := Lib.hid (heap_alloc_new w1 (.cells #[.int .i64 p, .int .i64 q, .int .i64 r] 41)); obtain ⟨y0, y1, y2, _, _, _⟩ := trip_cell RY.out))
        have TBd := Lib.hid TB.out.drew
        go_region_held3 (fun W => W.cell? ⟨w1.heap.size, 0, none⟩ = some (.int .i64 p) ∧ W.cell? ⟨w1.heap.size, 1, none⟩ = some (.int .i64 q) ∧ W.cell? ⟨w1.heap.size, 2, none⟩ = some (.int .i64 r)) (first | exact ⟨u0, u1, u2⟩ | exact ⟨x0, x1, x2⟩ | exact ⟨z0, z1, z2⟩)
          (first
          | (go_at_call 47; refine (iCnt _ A HAL.out).mono ?_; rw [HLL.out]; rintro e w5 ⟨rfl, rfl⟩)
          | (go_at_call 60; refine (iShG _ p q r u x HT.out HUL.out HXN.out).mono ?_; rw [HSH.out]; rintro e w4 ⟨rfl, hb4⟩; have T4 := Lib.hid (T3.out.trans (hb4.mono T3.out.size)); have RV := Lib.hid (keepH hb4 (by have := (Array.getElem?_eq_some_iff.1 RX.out).1; omega) RX.out); obtain ⟨u0, u1, u2, _, _, _⟩ := trip_cell RV.out)
          | (go_at_call 61; refine (iDilate _ p q r (-1) t HT.out HC.out HM1.out HM2.out B (Nat.le_trans hB0 TBd.out.size) (HTZ.out.on (TBd.out.mono hB0))).mono ?_; rw [HDL.out]; rintro e w3 ⟨rfl, hb3⟩; have T3 := Lib.hid (TBd.out.trans (hb3.mono TBd.out.size)); have RX := Lib.hid (keepH hb3 (by have := (Array.getElem?_eq_some_iff.1 RZ.out).1; simpa using this) RZ.out); obtain ⟨x0, x1, x2, _, _, _⟩ := trip_cell RX.out))
        go_wp2
        go_ret
        exact ⟨rfl, T4.out⟩
end Go.Proofs.YtaacofbmbpkeoaaGreatDoor

namespace Go.Proofs.YtaacofbmbpkeoaaGreatDoor
open Go.RowKit
set_option maxRecDepth 1000000
/-- The sums of x with the first elements of t, x itself left out. -/
def rowR (l : List Int) (t x j : Nat) : Nat := orF (fun y => addN l (y : Int) (x : Int)) (((bitsN t).take j).filter (fun y => decide (y ≠ x)))
theorem rowR_zero (l : List Int) (t x : Nat) : rowR l t x 0 = 0 := rfl
theorem rowR_same (l : List Int) (t x j : Nat) (h : j < (bitsN t).length) (e : (bitsN t).getD j 0 = x) : rowR l t x (j + 1) = rowR l t x j := by
  unfold rowR
  rw [List.take_add_one, List.getElem?_eq_getElem h]
  simp only [Option.toList_some, List.filter_append]
  have : (bitsN t)[j] = x := by rw [← e]; simp [List.getD, List.getElem?_eq_getElem h]
  simp [this]
theorem rowR_next (l : List Int) (t x j : Nat) (h : j < (bitsN t).length) (e : (bitsN t).getD j 0 ≠ x) : rowR l t x (j + 1) = rowR l t x j ||| 2 ^ (addN l (((bitsN t).getD j 0 : Nat) : Int) (x : Int)).toNat := by
  unfold rowR
  rw [List.take_add_one, List.getElem?_eq_getElem h]
  simp only [Option.toList_some, List.filter_append]
  have e2 : (bitsN t).getD j 0 = (bitsN t)[j] := by simp [List.getD, List.getElem?_eq_getElem h]
  rw [e2] at e ⊢
  have : [(bitsN t)[j]].filter (fun y => decide (y ≠ x)) = [(bitsN t)[j]] := by simp [e]
  rw [this, orF_snoc]
theorem rowR_full (l : List Int) (t x : Nat) : rowR l t x (bitsN t).length = movN l (woN t x) x := by
  unfold rowR movN
  rw [List.take_length, ← bits_wo]
theorem rowR_lt {l : List Int} (hg : grpB l = true) (t x j : Nat) : rowR l t x j < 2 ^ 24 :=
  orF_lt _ _ 24 (fun y _ => by have := addN_bnd hg (y : Int) (x : Int); omega)
end Go.Proofs.YtaacofbmbpkeoaaGreatDoor
