/- Merged: DGrp DGrp2 DGrp4 QE. -/
import Derived.Test.YthlpjiibjlaebaaDoorMGAG
import Derived.Deep.RegionHeld3
import Derived.Deep.LoopGhost
import Derived.Deep.Draws
import Derived.Deep.QuietTactic
import Derived.Shelf.RegionOpenPlain
import Derived.Test.YthlpjiibjlaebaaDoorMGAI
import Derived.Test.YthlpjiibjlaebaaDoorEnJ
import Derived.Test.YthlpjiibjlaebaaDoorEnT
import Derived.Test.YthlpjiibjlaebaaDoorEnQua
import Derived.Test.YthlpjiibjlaebaaDoorConI
import Derived.Test.YthlpjiibjlaebaaDoorSumSpec
namespace Go.Proofs.YthlpjiibjlaebaaDoor
open Go.RowKit
set_option maxRecDepth 1000000
/-- A drawn group, in the results. -/
def DGrp (w : World) (u : Value) (l : List Int) (w' : World) : Prop := w'.ownsRow w.heap.size 3 1 u l.length (l.map (Value.int .i64)) ∧ l.length ≤ 4 ∧ Below w.heap.size w w'
def DrawnGI (w : World) (e : Ending) (w' : World) : Prop := ∃ (u : Value) (l : List Int) (x : Int), e = .returned (.tuple #[.agg #[u], .int .i64 x]) ∧ -9223372036854775808 ≤ x ∧ x ≤ 9223372036854775807 ∧ DGrp w u l w'
set_option maxHeartbeats 4000000 in
theorem l3One_any (w : World) (a : Option Addr) (len cap : Nat) (hlen : len ≤ 1048576) (hd : CodeIn w a len) :
    Calls Tryd.prog 71 #[.slice a len cap] w (DrawnGI w) := by
  have HN := Lib.hid (new_at w a len cap hlen hd)
  clear hd
  go_enter Tryd.func71, Tryd.ntmps71
  go_wp2_with (first
    | (go_at_call 75; refine (l2Any_any _ _ a len cap hlen HC1.out HD1.out).mono ?_; rintro e w2 ⟨u, l, rfl, ho, hl, hcur, hg⟩; obtain ⟨au, cu, rfl, m2⟩ := mid_of HD1.out HB1.out HC1.out ho hl hcur hg; have M2 := Lib.hid m2; clear ho hl hcur hg m2; have M3 := Lib.hid (M2.out.alloc #[.slice au l.length cu] 26); have g3 := newC w2 (.slice au l.length cu) 26 (n := w2.heap.size) rfl; have G2 := Lib.hid M2.out.lt)
    | (go_at_call 74; refine HN.out.mono ?_; rintro e w1 ⟨rfl, hcur, hda, hbel⟩; have HC1 := Lib.hid hcur; have HD1 := Lib.hid hda; have HB1 := Lib.hid hbel; clear hcur hda hbel))
  have F3 := Lib.hid (l3Set_any _ _ a len cap l au l.length cu rfl (by have := M3.out.few; omega) M3.out.drew.ints hlen M3.out.drew.cur M3.out.drew.dat)
  go_region_with (go_at_call 76; refine F3.out.mono ?_; rintro e w4 ⟨x, rfl, hx0, hx1, hcur, hg⟩; have M4 := Lib.hid (M3.out.drew.grown hcur hg); have g4 := hg.cell g3 (by have := G2.out; simp; omega); have c4 := M4.out.cells.1; have f4 := M4.out.cells.2; clear hcur hg)
  all_goals
    have c5 := World.cell?_setCell_same w4 ⟨w.heap.size, 0, none⟩ (.slice au l.length cu) c4
    go_wp2
    refine bodyPost_ret (v := .tuple #[.agg #[.slice au l.length cu], .int .i64 x]) (by simp [results, Tryd.results71, go_sem, c5]) rfl ?_
    exact ⟨_, l, x, rfl, hx0, hx1, M4.out.finish.1, M4.out.few, M4.out.finish.2⟩
end Go.Proofs.YthlpjiibjlaebaaDoor

namespace Go.Proofs.YthlpjiibjlaebaaDoor
open Go.RowKit
set_option maxRecDepth 1000000
/-- A result's variable, the drawn group in another one. -/
theorem hand_on {w w1 : World} {u : Value} {l : List Int} (hb : Below w.heap.size w w1) (h : w1.ownsRow (w.heap.size + 1) 3 1 u l.length (l.map (Value.int .i64))) :
    (w1.setCell ⟨w.heap.size, 0, none⟩ u).ownsRow w.heap.size 3 1 u l.length (l.map (Value.int .i64)) ∧ Below w.heap.size w (w1.setCell ⟨w.heap.size, 0, none⟩ u) :=
  ⟨ownsRow_lower (ownsRow_setCell_below (a := ⟨w.heap.size, 0, none⟩) h (by show w.heap.size < _; omega) _) (by omega), below_newset hb (Nat.le_refl _) _⟩
theorem one_at (w : World) (a : Option Addr) (len cap : Nat) (hlen : len ≤ 1048576) (hd : CodeIn w a len) :
    Calls Tryd.prog 71 #[.slice a len cap] (w.alloc nilG) fun e w1 => ∃ (u : Value) (l : List Int) (x : Int), e = .returned (.tuple #[.agg #[u], .int .i64 x]) ∧ -9223372036854775808 ≤ x ∧ x ≤ 9223372036854775807 ∧ w1.ownsRow (w.heap.size + 1) 3 1 u l.length (l.map (Value.int .i64)) ∧ l.length ≤ 4 ∧ Below (w.heap.size + 1) (w.alloc nilG) w1 := by
  have h := l3One_any (w.alloc nilG) a len cap hlen (hd.below (Joins.below_alloc1 w nilG))
  have e : (w.alloc nilG).heap.size = w.heap.size + 1 := by simp
  unfold DrawnGI DGrp at h
  rw [e] at h
  exact h
end Go.Proofs.YthlpjiibjlaebaaDoor

namespace Go.Proofs.YthlpjiibjlaebaaDoor
open Go.RowKit
set_option maxRecDepth 1000000
theorem big_no (w : World) (a : Option Addr) (len cap : Nat) (h : len ≤ 1048576) :
    Calls Tryd.prog 11 #[.slice a len cap] w fun e w' => e = .returned (.bool false) ∧ w = w' := by
  have h1 : ¬ (1048576 : Int) < (len : Int) := by omega
  go_enter Tryd.func11, Tryd.ntmps11
  go_wp2
  go_ret
  exact ⟨by first | rfl | (simp; done) | (simp; omega), rfl⟩
theorem big_yes (w : World) (a : Option Addr) (len cap : Nat) (h : 1048576 < len) :
    Calls Tryd.prog 11 #[.slice a len cap] w fun e w' => e = .returned (.bool true) ∧ w = w' := by
  have h1 : (1048576 : Int) < (len : Int) := by omega
  go_enter Tryd.func11, Tryd.ntmps11
  go_wp2
  go_ret
  exact ⟨by first | rfl | (simp; done) | (simp; omega), rfl⟩
set_option maxHeartbeats 4000000 in
/-- Two readings of one list are the same. -/
theorem sameInts_same (w : World) (a b : Option Addr) (p : List Int) (n ca cb : Nat) (hn : n = p.length) (hm : n ≤ 1048576) (hi : Ints w a p) (hj : Ints w b p) :
    Calls Tryd.prog 44 #[.slice a n ca, .slice b n cb] w fun e w' => e = .returned (.bool true) ∧ Below w.heap.size w w' := by
  have HI := Lib.hid hi
  have HJ := Lib.hid hj
  have HN := Lib.hid hn
  clear hi hj hn
  have mixed : Tryd.prog.follows .mixedOrders = true := by rfl
  go_enter Tryd.func44, Tryd.ntmps44
  go_wp2
  go_loopw [5] (fun i wr => ∃ k : Nat, i = .int .i64 k ∧ k ≤ n ∧ Below w.heap.size w wr) (fun i _ => n - (intOf i).toNat)
  case atStart => exact ⟨0, rfl, by omega, Below.refl _ _⟩
  case round =>
    obtain ⟨k, rfl, h1, hbel⟩ := hrel
    by_cases hk : k < n
    · have hkl : k < p.length := by have := HN.out; omega
      have HBL := Lib.hid hbel
      have r1 : ∃ ba oa, a = some ⟨ba, oa, none⟩ ∧ ∀ q, (wr.drewN q).cell? ⟨ba, oa + k, none⟩ = some (.int .i64 (p.getD k 0)) := by
        rcases HI.out with h0 | ⟨ba, oa, ha, hbl, hc⟩
        · rw [h0] at hkl; simp at hkl
        · exact ⟨ba, oa, ha, fun q => by simpa using keepC hbel hbl (hc k hkl)⟩
      have r2 : ∃ bb ob, b = some ⟨bb, ob, none⟩ ∧ ∀ q, (wr.drewN q).cell? ⟨bb, ob + k, none⟩ = some (.int .i64 (p.getD k 0)) := by
        rcases HJ.out with h0 | ⟨ba, oa, ha, hbl, hc⟩
        · rw [h0] at hkl; simp at hkl
        · exact ⟨ba, oa, ha, fun q => by simpa using keepC hbel hbl (hc k hkl)⟩
      obtain ⟨ba, oa, rfl, la⟩ := r1
      obtain ⟨bb, ob, rfl, lb⟩ := r2
      obtain ⟨x, hx⟩ : ∃ x, p.getD k 0 = x := ⟨_, rfl⟩
      rw [hx] at la lb
      have ea : ((k : Int)).toNat = k := by omega
      have pa : (0 : Int) ≤ (k : Int) := by omega
      have pb : (k : Int) < (n : Int) := by omega
      clear hx hbel hkl
      go_wp2_with fail
      go_quiet_o (fail)
      clear la lb ea
      go_wp2
      go_roundw
      case rel => exact ⟨k + 1, by go_num, by omega, ⟨HBL.out.os, HBL.out.tape, HBL.out.output, HBL.out.size, HBL.out.block⟩⟩
      case measure => simp [intOf]; omega
    · obtain rfl : k = n := by omega
      have HBL := Lib.hid hbel
      clear hbel
      go_wp2
      go_ret
      exact ⟨rfl, HBL.out⟩
end Go.Proofs.YthlpjiibjlaebaaDoor

namespace Go.Proofs.YthlpjiibjlaebaaDoor
open Go.RowKit
set_option maxRecDepth 1000000
theorem qsQua {W0 W : World} {au : Option Addr} {cu : Nat} {l : List Int} {x : Int} (hi : Ints W0 au l) (hl : l.length ≤ 4) (o : On W0 W) :
    Calls Tryd.prog 31 #[.agg #[.slice au l.length cu], .int .i64 x] W fun e w' => e = .returned (.int .i64 (quaE l x)) ∧ On W0 w' :=
  (sQua W au l _ cu x rfl (by omega) (o.ints hi)).mono fun _ _ h => ⟨h.1, o.step h.2⟩
theorem qiQua {W0 W : World} {au : Option Addr} {cu : Nat} {l : List Int} {x : Int} {B : Nat} (hi : Ints W0 au l) (hl : l.length ≤ 4) (hB : B ≤ W0.heap.size) (ht : TabZ B W0) (o : On W0 W) :
    Calls Tryd.prog 30 #[.agg #[.slice au l.length cu], .int .i64 x] W fun e w' => e = .returned (.int .i64 (quaE l x)) ∧ On W0 w' :=
  (iQua W au l _ cu x rfl (by omega) (o.ints hi) B (Nat.le_trans hB (Below.size o)) (o.tab hB ht)).mono fun _ _ h => ⟨h.1, o.step h.2⟩
theorem qsEng {W0 W : World} {au : Option Addr} {cu : Nat} {l : List Int} {x y : Int} (hi : Ints W0 au l) (hl : l.length ≤ 4) (o : On W0 W) :
    Calls Tryd.prog 49 #[.agg #[.slice au l.length cu], .int .i64 x, .int .i64 y] W fun e w' => e = .returned (.int .i64 (engE l x y)) ∧ On W0 w' :=
  (sEng W au l _ cu x y rfl (by omega) (o.ints hi)).mono fun _ _ h => ⟨h.1, o.step h.2⟩
theorem qiEng {W0 W : World} {au : Option Addr} {cu : Nat} {l : List Int} {x y : Int} {B : Nat} (hi : Ints W0 au l) (hl : l.length ≤ 4) (hB : B ≤ W0.heap.size) (ht : TabZ B W0) (o : On W0 W) :
    Calls Tryd.prog 32 #[.agg #[.slice au l.length cu], .int .i64 x, .int .i64 y] W fun e w' => e = .returned (.int .i64 (engE l x y)) ∧ On W0 w' :=
  (iEng W au l _ cu x y rfl (by omega) (o.ints hi) B (Nat.le_trans hB (Below.size o)) (o.tab hB ht)).mono fun _ _ h => ⟨h.1, o.step h.2⟩
theorem qsPop {W0 W : World} {au : Option Addr} {cu : Nat} {l : List Int} {x y z : Int} (hi : Ints W0 au l) (hl : l.length ≤ 4) (o : On W0 W) :
    Calls Tryd.prog 36 #[.agg #[.slice au l.length cu], .int .i64 x, .int .i64 y, .int .i64 z] W fun e w' => e = .returned (.int .i64 (popE l x y z)) ∧ On W0 w' :=
  (sPop W au l _ cu x y z rfl (by omega) (o.ints hi)).mono fun _ _ h => ⟨h.1, o.step h.2⟩
theorem qiPop {W0 W : World} {au : Option Addr} {cu : Nat} {l : List Int} {x y z : Int} {B : Nat} (hi : Ints W0 au l) (hl : l.length ≤ 4) (hB : B ≤ W0.heap.size) (ht : TabZ B W0) (o : On W0 W) :
    Calls Tryd.prog 35 #[.agg #[.slice au l.length cu], .int .i64 x, .int .i64 y, .int .i64 z] W fun e w' => e = .returned (.int .i64 (popE l x y z)) ∧ On W0 w' :=
  (iPop W au l _ cu x y z rfl (by omega) (o.ints hi) B (Nat.le_trans hB (Below.size o)) (o.tab hB ht)).mono fun _ _ h => ⟨h.1, o.step h.2⟩
theorem qsTri {W0 W : World} {au : Option Addr} {cu : Nat} {l : List Int} {x y z : Int} (hi : Ints W0 au l) (hl : l.length ≤ 4) (o : On W0 W) :
    Calls Tryd.prog 39 #[.agg #[.slice au l.length cu], .int .i64 x, .int .i64 y, .int .i64 z] W fun e w' => e = .returned (.int .i64 (triE l x y z)) ∧ On W0 w' :=
  (sTri W au l _ cu x y z rfl (by omega) (o.ints hi)).mono fun _ _ h => ⟨h.1, o.step h.2⟩
theorem qiTri {W0 W : World} {au : Option Addr} {cu : Nat} {l : List Int} {x y z : Int} {B : Nat} (hi : Ints W0 au l) (hl : l.length ≤ 4) (hB : B ≤ W0.heap.size) (ht : TabZ B W0) (o : On W0 W) :
    Calls Tryd.prog 38 #[.agg #[.slice au l.length cu], .int .i64 x, .int .i64 y, .int .i64 z] W fun e w' => e = .returned (.int .i64 (triE l x y z)) ∧ On W0 w' :=
  (iTri W au l _ cu x y z rfl (by omega) (o.ints hi) B (Nat.le_trans hB (Below.size o)) (o.tab hB ht)).mono fun _ _ h => ⟨h.1, o.step h.2⟩
theorem qsSum {W0 W : World} {au : Option Addr} {cu : Nat} {l : List Int} {x y : Int} (hi : Ints W0 au l) (hl : l.length ≤ 4) (o : On W0 W) :
    Calls Tryd.prog 14 #[.agg #[.slice au l.length cu], .int .i64 x, .int .i64 y] W fun e w' => e = .returned (.int .i64 (sumE l x y)) ∧ On W0 w' :=
  (sSum W au l _ cu x y rfl (by omega) (o.ints hi)).mono fun _ _ h => ⟨h.1, o.step h.2⟩
theorem qsCns {W0 W : World} {au : Option Addr} {cu : Nat} {l : List Int} {x : Int} (hi : Ints W0 au l) (hl : l.length ≤ 4) (o : On W0 W) :
    Calls Tryd.prog 33 #[.agg #[.slice au l.length cu], .int .i64 x] W fun e w' => e = .returned (.int .i64 (cntE l x)) ∧ On W0 w' :=
  (sCount W au l _ cu x rfl (by omega) (o.ints hi)).mono fun _ _ h => ⟨h.1, o.step h.2⟩
theorem qsCor {W0 W : World} {au : Option Addr} {cu : Nat} {l : List Int} {x y : Int} (hi : Ints W0 au l) (hl : l.length ≤ 4) (o : On W0 W) :
    Calls Tryd.prog 48 #[.agg #[.slice au l.length cu], .int .i64 x, .int .i64 y] W fun e w' => ∃ (a2 : Option Addr) (c2 : Nat), e = .returned (.slice a2 (corE l x y).length c2) ∧ Ints w' a2 (corE l x y) ∧ On W0 w' :=
  (sCor W au l _ cu x y rfl (by omega) (o.ints hi)).mono fun _ _ ⟨v, h1, h2, h3⟩ => by
    obtain ⟨a2, c2, rfl⟩ := own_slice h2
    exact ⟨a2, c2, h1, own_ints h2, o.step h3⟩
theorem qiCor {W0 W : World} {au : Option Addr} {cu : Nat} {l : List Int} {x y : Int} {B : Nat} (hi : Ints W0 au l) (hl : l.length ≤ 4) (hB : B ≤ W0.heap.size) (ht : TabZ B W0) (o : On W0 W) :
    Calls Tryd.prog 47 #[.agg #[.slice au l.length cu], .int .i64 x, .int .i64 y] W fun e w' => ∃ (a2 : Option Addr) (c2 : Nat), e = .returned (.slice a2 (corE l x y).length c2) ∧ Ints w' a2 (corE l x y) ∧ On W0 w' :=
  (iCor W au l _ cu x y rfl (by omega) (o.ints hi) B (Nat.le_trans hB (Below.size o)) (o.tab hB ht)).mono fun _ _ ⟨v, h1, h2, h3⟩ => by
    obtain ⟨a2, c2, rfl⟩ := own_slice h2
    exact ⟨a2, c2, h1, own_ints h2, o.step h3⟩
theorem qsCnv {W0 W : World} {au a b : Option Addr} {cu ca cb : Nat} {l p q : List Int} (hi : Ints W0 au l) (hl : l.length ≤ 4) (hp : p.length ≤ 24) (hq : q.length ≤ 24) (hj : Ints W0 a p) (hk : Ints W0 b q) (o : On W0 W) :
    Calls Tryd.prog 45 #[.agg #[.slice au l.length cu], .slice a p.length ca, .slice b q.length cb] W fun e w' => ∃ (a2 : Option Addr) (c2 : Nat), e = .returned (.slice a2 (cvE l p q).length c2) ∧ Ints w' a2 (cvE l p q) ∧ On W0 w' :=
  (sCnv W au a b l p q _ cu _ ca _ cb rfl (by omega) (o.ints hi) rfl (by omega) (o.ints hj) rfl (by omega) (o.ints hk)).mono fun _ _ ⟨v, h1, h2, h3⟩ => by
    obtain ⟨a2, c2, rfl⟩ := own_slice h2
    exact ⟨a2, c2, h1, own_ints h2, o.step h3⟩
theorem qiCnv {W0 W : World} {au a b : Option Addr} {cu ca cb : Nat} {l p q : List Int} (hi : Ints W0 au l) (hl : l.length ≤ 4) (hp : p.length ≤ 24) (hq : q.length ≤ 24) (hj : Ints W0 a p) (hk : Ints W0 b q) (o : On W0 W) :
    Calls Tryd.prog 41 #[.agg #[.slice au l.length cu], .slice a p.length ca, .slice b q.length cb] W fun e w' => ∃ (a2 : Option Addr) (c2 : Nat), e = .returned (.slice a2 (cvE l p q).length c2) ∧ Ints w' a2 (cvE l p q) ∧ On W0 w' :=
  (iCnv W au a b l p q _ cu _ ca _ cb rfl (by omega) (o.ints hi) rfl (by omega) (o.ints hj) rfl (by omega) (o.ints hk)).mono fun _ _ ⟨v, h1, h2, h3⟩ => by
    obtain ⟨a2, c2, rfl⟩ := own_slice h2
    exact ⟨a2, c2, h1, own_ints h2, o.step h3⟩
theorem total_wide (w : World) (a : Option Addr) (p : List Int) (n c : Nat) (hn : n = p.length) (hm : n ≤ 24) (hb : ∀ x ∈ p, -100000000000 ≤ x ∧ x ≤ 100000000000) (hi : Ints w a p) :
    Calls Tryd.prog 46 #[.slice a n c] w fun e w' => e = .returned (.int .i64 p.sum) ∧ w = w' := by
  have HI := Lib.hid hi
  have HN := Lib.hid hn
  have HBD := Lib.hid hb
  have HS : Hid (∀ k, k ≤ p.length → -(100000000000 * (k : Int)) ≤ (p.take k).sum ∧ (p.take k).sum ≤ 100000000000 * (k : Int)) := Lib.hid (by
    intro k
    induction k with
    | zero => intro _; simp
    | succ k ih =>
      intro hk
      have h1 := ih (by omega)
      have hkl : k < p.length := by omega
      have h2 := hb (p.getD k 0) (by simp [List.getD, hkl])
      rw [List.take_add_one, List.getElem?_eq_getElem hkl, List.sum_append]
      have h3 : p[k] = p.getD k 0 := by simp [List.getD, hkl]
      simp only [Option.toList_some, List.sum_cons, List.sum_nil, h3]
      omega)
  clear hi hn hb
  go_enter Tryd.func46, Tryd.ntmps46
  go_wp2
  go_loopw [3, 4] (fun s i wr => ∃ k : Nat, k ≤ n ∧ i = .int .i64 k ∧ s = .int .i64 (p.take k).sum ∧ w = wr) (fun _ i _ => n - (intOf i).toNat)
  case atStart => exact ⟨0, Nat.zero_le _, rfl, rfl, rfl⟩
  case round =>
    obtain ⟨k, hk, rfl, rfl, rfl⟩ := hrel
    by_cases hlt : k < n
    · have hkl : k < p.length := by rw [← HN.out]; exact hlt
      rcases HI.out with h0 | ⟨b, off, ha, hbl, hc⟩
      · rw [h0] at hkl; simp at hkl
      · subst ha
        have r1 := hc k hkl
        have h1 := HS.out k (by omega)
        have h2 := HBD.out (p.getD k 0) (by simp [List.getD, hkl])
        have HT : Hid ((p.take (k + 1)).sum = (p.take k).sum + p.getD k 0) := Lib.hid (by
          rw [List.take_add_one, List.getElem?_eq_getElem hkl, List.sum_append]
          simp [List.getD, hkl])
        obtain ⟨x, hx⟩ : ∃ x, p.getD k 0 = x := ⟨_, rfl⟩
        obtain ⟨s, hs⟩ : ∃ s, (p.take k).sum = s := ⟨_, rfl⟩
        rw [hx] at r1 h2 HT
        rw [hs] at h1 HT
        rw [hs]
        clear hx hs hc hkl hbl
        go_wp2
        go_roundw
        case rel => exact ⟨k + 1, by omega, by go_num, by rw [HT.out], by first | trivial | rfl⟩
        case measure => simp [intOf]; omega
    · obtain rfl : k = n := by omega
      go_wp2
      go_ret
      exact ⟨by rw [HN.out, List.take_length]; rfl, rfl⟩
theorem qTotW {W0 W : World} {a : Option Addr} {c : Nat} {p : List Int} (hp : p.length ≤ 24) (hb : ∀ x ∈ p, -100000000000 ≤ x ∧ x ≤ 100000000000) (hi : Ints W a p) (o : On W0 W) :
    Calls Tryd.prog 46 #[.slice a p.length c] W fun e w' => e = .returned (.int .i64 p.sum) ∧ On W0 w' :=
  (total_wide W a p _ c rfl hp hb hi).mono fun _ _ h => ⟨h.1, by rw [← h.2]; exact o⟩
theorem qSameP {W0 W : World} {a b : Option Addr} {ca cb : Nat} {p : List Int} (hp : p.length ≤ 1048576) (hi : Ints W a p) (hj : Ints W b p) (o : On W0 W) :
    Calls Tryd.prog 44 #[.slice a p.length ca, .slice b p.length cb] W fun e w' => e = .returned (.bool true) ∧ On W0 w' :=
  (sameInts_same W a b p _ ca cb rfl hp hi hj).mono fun _ _ h => ⟨h.1, o.step h.2⟩
end Go.Proofs.YthlpjiibjlaebaaDoor
