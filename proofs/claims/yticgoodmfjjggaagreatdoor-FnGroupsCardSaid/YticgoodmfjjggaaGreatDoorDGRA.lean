/- Merged: DGrp DGrp2 DGrp4. -/
import Derived.Test.YticgoodmfjjggaaGreatDoorDMid
import Derived.Deep.RegionHeld3
import Derived.Deep.LoopGhost
import Derived.Deep.Draws
import Derived.Deep.QuietTactic
import Derived.Shelf.RegionOpenPlain
namespace Go.Proofs.YticgoodmfjjggaaGreatDoor
open Go.RowKit
set_option maxRecDepth 1000000
/-- A drawn group, in the results. -/
def DGrp (w : World) (u : Value) (l : List Int) (w' : World) : Prop := w'.ownsRow w.heap.size 3 1 u l.length (l.map (Value.int .i64)) ∧ l.length ≤ 4 ∧ Below w.heap.size w w'
def DrawnGI (w : World) (e : Ending) (w' : World) : Prop := ∃ (u : Value) (l : List Int) (x : Int), e = .returned (.tuple #[.agg #[u], .int .i64 x]) ∧ -9223372036854775808 ≤ x ∧ x ≤ 9223372036854775807 ∧ DGrp w u l w'
end Go.Proofs.YticgoodmfjjggaaGreatDoor

namespace Go.Proofs.YticgoodmfjjggaaGreatDoor
open Go.RowKit
set_option maxRecDepth 1000000
/-- A result's variable, the drawn group in another one. -/
theorem hand_on {w w1 : World} {u : Value} {l : List Int} (hb : Below w.heap.size w w1) (h : w1.ownsRow (w.heap.size + 1) 3 1 u l.length (l.map (Value.int .i64))) :
    (w1.setCell ⟨w.heap.size, 0, none⟩ u).ownsRow w.heap.size 3 1 u l.length (l.map (Value.int .i64)) ∧ Below w.heap.size w (w1.setCell ⟨w.heap.size, 0, none⟩ u) :=
  ⟨ownsRow_lower (ownsRow_setCell_below (a := ⟨w.heap.size, 0, none⟩) h (by show w.heap.size < _; omega) _) (by omega), below_newset hb (Nat.le_refl _) _⟩
end Go.Proofs.YticgoodmfjjggaaGreatDoor

namespace Go.Proofs.YticgoodmfjjggaaGreatDoor
open Go.RowKit
set_option maxRecDepth 1000000
theorem big_no (w : World) (a : Option Addr) (len cap : Nat) (h : len ≤ 1048576) :
    Calls Tryz.prog 5 #[.slice a len cap] w fun e w' => e = .returned (.bool false) ∧ w = w' := by
  have h1 : ¬ (1048576 : Int) < (len : Int) := by omega
  go_enter Tryz.func5, Tryz.ntmps5
  go_wp2
  go_ret
  exact ⟨by first | rfl | (simp; done) | (simp; omega), rfl⟩
theorem big_yes (w : World) (a : Option Addr) (len cap : Nat) (h : 1048576 < len) :
    Calls Tryz.prog 5 #[.slice a len cap] w fun e w' => e = .returned (.bool true) ∧ w = w' := by
  have h1 : (1048576 : Int) < (len : Int) := by omega
  go_enter Tryz.func5, Tryz.ntmps5
  go_wp2
  go_ret
  exact ⟨by first | rfl | (simp; done) | (simp; omega), rfl⟩
set_option maxHeartbeats 4000000 in
/-- Two readings of one list are the same. -/
theorem sameInts_same (w : World) (a b : Option Addr) (p : List Int) (n ca cb : Nat) (hn : n = p.length) (hm : n ≤ 1048576) (hi : Ints w a p) (hj : Ints w b p) :
    Calls Tryz.prog 32 #[.slice a n ca, .slice b n cb] w fun e w' => e = .returned (.bool true) ∧ Below w.heap.size w w' := by
  have HI := Lib.hid hi
  have HJ := Lib.hid hj
  have HN := Lib.hid hn
  clear hi hj hn
  have mixed : Tryz.prog.follows .mixedOrders = true := by rfl
  go_enter Tryz.func32, Tryz.ntmps32
  go_wp2
  go_loopw [5] (fun i wr => ∃ k : Nat, i = .int .i64 k ∧ k ≤ n ∧ Below w.heap.size w wr) (fun i _ => n - (intOf i).toNat)
  case atStart => exact ⟨0, rfl, by omega, Below.refl _ _⟩
  case round =>
    obtain ⟨k, rfl, h1, hbel⟩ := hrel
    by_cases hk : k < n
    · have hkl : k < p.length := by have := HN.out; omega
      have HBL := Lib.hid hbel
      have r1 : ∃ ba oa, a = some ⟨ba, oa, none⟩ ∧ ∀ q, (wr.drewN q).cell? ⟨ba, oa + k, none⟩ = some (.int .i64 (p.getD k 0)) := by
        rcases HI.out with h0 | ⟨ba, oa, ha, hbl, hc⟩
        · rw [h0] at hkl; simp at hkl
        · exact ⟨ba, oa, ha, fun q => by simpa using keepC hbel hbl (hc k hkl)⟩
      have r2 : ∃ bb ob, b = some ⟨bb, ob, none⟩ ∧ ∀ q, (wr.drewN q).cell? ⟨bb, ob + k, none⟩ = some (.int .i64 (p.getD k 0)) := by
        rcases HJ.out with h0 | ⟨ba, oa, ha, hbl, hc⟩
        · rw [h0] at hkl; simp at hkl
        · exact ⟨ba, oa, ha, fun q => by simpa using keepC hbel hbl (hc k hkl)⟩
      obtain ⟨ba, oa, rfl, la⟩ := r1
      obtain ⟨bb, ob, rfl, lb⟩ := r2
      obtain ⟨x, hx⟩ : ∃ x, p.getD k 0 = x := ⟨_, rfl⟩
      rw [hx] at la lb
      have ea : ((k : Int)).toNat = k := by omega
      have pa : (0 : Int) ≤ (k : Int) := by omega
      have pb : (k : Int) < (n : Int) := by omega
      clear hx hbel hkl
      go_wp2_with fail
      go_quiet_o (fail)
      clear la lb ea
      go_wp2
      go_roundw
      case rel => exact ⟨k + 1, by go_num, by omega, ⟨HBL.out.os, HBL.out.tape, HBL.out.output, HBL.out.size, HBL.out.block⟩⟩
      case measure => simp [intOf]; omega
    · obtain rfl : k = n := by omega
      have HBL := Lib.hid hbel
      clear hbel
      go_wp2
      go_ret
      exact ⟨rfl, HBL.out⟩
end Go.Proofs.YticgoodmfjjggaaGreatDoor
