/- The library's TrailingZeros at numbers below 2^24, given its table; the program's iterator over the elements of a set: it yields them in ascending order. -/
import Derived.Test.YtaacofbmbpkeoaaDoorSetBits
import Derived.RangeFuncFrom
import Derived.RangeFuncBox
import Derived.RangeFuncNested
import Derived.RangeFuncBound
import Derived.RangeFuncCalls
import Derived.RangeFuncLeaves
import Derived.Shelf.Abstract
import Derived.Shelf.RegionOpen
import Derived.Shelf.Spec.TrailingZeros
import Derived.WalkKit
import Derived.OwnWalkIn
import Derived.TacticsInMore
import Derived.LoopNIn
import Derived.LoopIn
import Derived.Maps.AppendAt
import Derived.Lib.LaidTab
import Derived.Lib.AppendIntMem
namespace Go.Proofs.YtaacofbmbpkeoaaDoor
open Go.RowKit Go.Shelf
attribute [local go_sem] Oper.semAt_some
set_option maxRecDepth 1000000
def tabZ : List Int := Lib.deBruijn64tab.map fun (n : Nat) => (n : Int)
/-- The library's table reads as it is laid, whatever is done from block B on. -/
def TabZ (B : Nat) (w : World) : Prop := Lib.TabBelow Tryd.prog B w "math/bits.deBruijn64tab" .u8 tabZ
theorem TabZ.on {B : Nat} {w w1 : World} (h : TabZ B w) (hb : Below B w w1) : TabZ B w1 := Lib.TabBelow.on h hb
theorem TabZ.at {B : Nat} {w : World} (h : TabZ B w) (j : Nat) (hj : j < 64) : w.cell? ⟨2, j, none⟩ = some (.int .u8 ((Lib.deBruijn64tab.getD j 0 : Nat) : Int)) := by
  have h1 := Lib.TabIs.cell (g := 2) (Lib.TabBelow.here h) (by kernel_rfl) j (by unfold tabZ; rw [List.length_map]; exact hj)
  have hl : j < Lib.deBruijn64tab.length := hj
  simpa [tabZ, List.getD, List.getElem?_eq_getElem hl] using h1
theorem iTz64 (w : World) (x : Nat) (hx : x < 16777216) (h0 : x ≠ 0) (B : Nat) (ht : TabZ B w) :
    Calls Tryd.prog 79 #[.int .u64 x] w fun e w' => e = .returned (.int .i64 (Lib.ctz 64 x : Nat)) ∧ w = w' := by
  have hx64 : x < 18446744073709551616 := Nat.lt_trans hx (by decide)
  obtain ⟨hlow, hk⟩ := Lib.lowest_bit 64 x h0 hx64
  obtain ⟨hi, htab⟩ := Lib.deBruijn64_at _ hk
  have hcell := ht.at _ hi
  rw [htab] at hcell
  have key := tz64_key x _ hx64 h0 hlow
  have hx0 : ((x : Int) == 0) = false := by simp; omega
  obtain ⟨k, hkk⟩ : ∃ k, Lib.ctz 64 x = k := ⟨_, rfl⟩
  rw [hkk] at hcell hk
  rw [hkk]
  obtain ⟨idx, hidx⟩ : ∃ i, 2 ^ Lib.ctz 64 x * 285870213051353865 % 18446744073709551616 / 288230376151711744 = i := ⟨_, rfl⟩
  rw [hidx] at key hi
  rw [hkk] at hidx
  rw [hidx] at hcell
  clear htab hlow hkk hidx h0 ht
  go_enter Tryd.func79, Tryd.ntmps79
  go_wp2_with (simp only [key])
  go_ret
  exact ⟨rfl, rfl⟩
theorem iTz (w : World) (x : Nat) (hx : x < 16777216) (h0 : x ≠ 0) (B : Nat) (ht : TabZ B w) :
    Calls Tryd.prog 72 #[.int .u64 x] w fun e w' => e = .returned (.int .i64 (Lib.ctz 64 x : Nat)) ∧ w = w' := by
  have HX := Lib.hid hx
  have H0 := Lib.hid h0
  have HT := Lib.hid ht
  clear ht h0
  go_enter Tryd.func72, Tryd.ntmps72
  go_wp2_with (go_at_call 79; refine (iTz64 _ x HX.out H0.out B HT.out).mono ?_; rintro e w1 ⟨rfl, rfl⟩)
  go_ret
  exact ⟨rfl, rfl⟩
theorem iLeast (w : World) (x : Nat) (hx : x < 16777216) (h0 : x ≠ 0) (B : Nat) (ht : TabZ B w) :
    Calls Tryd.prog 57 #[.int .u64 x] w fun e w' => e = .returned (.int .i64 (Lib.ctz 64 x : Nat)) ∧ w = w' := by
  have HX := Lib.hid hx
  have H0 := Lib.hid h0
  have HT := Lib.hid ht
  clear ht h0
  go_enter Tryd.func57, Tryd.ntmps57
  go_wp2_with (go_at_call 72; refine (iTz _ x HX.out H0.out B HT.out).mono ?_; rintro e w1 ⟨rfl, rfl⟩)
  go_ret
  exact ⟨rfl, rfl⟩
set_option maxHeartbeats 1000000 in
theorem each_in (n : Nat) (s : Nat) (hs : s < 2 ^ 24) (B l : Nat) (J : List Nat → World → Prop) (hT : ∀ pre W, J pre W → TabZ B W)
    (hY : ∀ pre x W, J pre W → x < 24 → s.testBit x = true → pre.length < 24 → YieldAt Fence.wide (n - 1) Tryd.prog l #[.int .i64 (x : Nat)] W fun e W' => e = .returned (.bool true) ∧ J (pre ++ [x]) W')
    (W : World) (h0 : J [] W) :
    CallsIn Fence.wide n Tryd.prog 43 #[.int .u64 s, .func (.yield l) #[] #[]] W fun e W' => (∃ v, e = .returned v) ∧ J (bitsN s) W' := by
  have HS := Lib.hid hs
  have HY := Lib.hid hY
  have HTB := Lib.hid hT
  clear hs hY hT
  refine callsIn_of_wp Tryd.func43 rfl trivial ?_ rfl
  simp only [Tryd.ntmps43, List.size_toArray, List.length_cons, List.length_nil, Nat.reduceAdd, Nat.reduceSub, Array.replicate_succ, Array.replicate_zero, List.push_toArray, List.append_toArray, List.nil_append, List.cons_append]
  gi_wp2
  gi_loopw [4] (fun r wr => ∃ k R : Nat, k ≤ 24 ∧ r = .int .u64 (R : Nat) ∧ Hid (restK s k = R) ∧ J (upK s k) wr) (fun r _ => (intOf r).toNat)
  case atStart => exact ⟨0, s, by omega, rfl, Lib.hid (restK_zero s), h0⟩
  case round =>
    obtain ⟨k, R, hk, rfl, HR, hJ⟩ := hrel
    by_cases hz : R = 0
    · have HE := Lib.hid (restK_end (a := s) (k := k) (by rw [HR.out, hz]) hk)
      subst hz
      have hn0 : ((((0 : Nat) : Int)) == 0) = true := rfl
      gi_wp2
      go_end0
      exact ⟨⟨_, rfl⟩, by rw [← HE.out]; exact hJ⟩
    · obtain ⟨t, ht, hkt, ht24, hu, hand, hlt⟩ := rest_step (a := s) (k := k) HS.out (by rw [HR.out]; exact hz)
      rw [HR.out] at ht hand hlt
      have hRlt : R < 16777216 := by
        rw [← HR.out]; exact Nat.lt_of_le_of_lt (restK_le s k) HS.out
      have H1 := Lib.hid hRlt
      have H2 := Lib.hid hz
      have hne : ((R : Int) == 0) = false := by simp; omega
      obtain ⟨R2, HR2⟩ : ∃ R2, Hid (restK s (t + 1) = R2) := ⟨_, Lib.hid rfl⟩
      rw [HR2.out] at hand hlt
      have HBB : Hid (bits .and .u64 (R : Int) (IntKind.u64.wrap ((R : Int) - 1)) = (R2 : Int)) := Lib.hid (by
        rw [← hand, ← bits_and_u64_nat R (R - 1) (by omega) (by omega), IntKind.wrap_u64]
        congr 1; omega)
      have HTT := Lib.hid ht
      have HU := Lib.hid hu
      have HLT := Lib.hid hlt
      have HT24 := Lib.hid ht24
      have HJ := Lib.hid hJ
      obtain ⟨fn, tmps, assign, body, hy, hR⟩ := HY.out (upK s k) t wr hJ ht24 (upK_mem (k := t + 1) (by rw [hu]; simp)).2 (Nat.lt_of_le_of_lt (upK_len s k) (by omega))
      clear ht hu hlt hand hz hJ
      gi_wp2
      refine ⟨trivial, fun h => (by simp [Fence.wide] at h), ?_⟩
      refine (callsIn_wide.2 (iLeast _ R H1.out H2.out B (HTB.out _ _ HJ.out))).mono ?_
      rw [HTT.out]
      rintro e w3 ⟨rfl, rfl⟩
      gi_wp2
      refine ⟨fun h => (by simp [Fence.wide] at h), hR.mono ?_⟩
      rintro e W3 ⟨rfl, hJ3⟩
      gi_wp2
      go_roundw
      case rel => exact ⟨t + 1, R2, by omega, by rw [HBB.out], HR2, by rw [HU.out]; exact hJ3⟩
      case measure => rw [HBB.out]; have := HLT.out; simp [intOf]; omega
end Go.Proofs.YtaacofbmbpkeoaaDoor
