/- Merged: Each On SetMem GrpAx. -/
import Derived.Test.YtehdneppleifdaaDoorMGAG
import Derived.RangeFuncFrom
import Derived.RangeFuncBox
import Derived.RangeFuncNested
import Derived.RangeFuncBound
import Derived.RangeFuncCalls
import Derived.RangeFuncLeaves
import Derived.Shelf.Abstract
import Derived.Shelf.RegionOpen
import Derived.Shelf.Spec.TrailingZeros
import Derived.WalkKit
import Derived.OwnWalkIn
import Derived.TacticsInMore
import Derived.LoopNIn
import Derived.LoopIn
import Derived.Maps.AppendAt
import Derived.Lib.LaidTab
import Derived.Lib.AppendIntMem
import Derived.Test.YtehdneppleifdaaDoorMGAF
import Derived.Test.YtehdneppleifdaaDoorMGAE
import Derived.Test.YtehdneppleifdaaDoorGrpMath2
namespace Go.Proofs.YtehdneppleifdaaDoor
open Go.RowKit Go.Shelf
attribute [local go_sem] Oper.semAt_some
set_option maxRecDepth 1000000
def tabZ : List Int := Lib.deBruijn64tab.map fun (n : Nat) => (n : Int)
/-- The library's table reads as it is laid, whatever is done from block B on. -/
def TabZ (B : Nat) (w : World) : Prop := Lib.TabBelow Tryd.prog B w "math/bits.deBruijn64tab" .u8 tabZ
theorem TabZ.on {B : Nat} {w w1 : World} (h : TabZ B w) (hb : Below B w w1) : TabZ B w1 := Lib.TabBelow.on h hb
theorem TabZ.at {B : Nat} {w : World} (h : TabZ B w) (j : Nat) (hj : j < 64) : w.cell? ⟨1, j, none⟩ = some (.int .u8 ((Lib.deBruijn64tab.getD j 0 : Nat) : Int)) := by
  have h1 := Lib.TabIs.cell (g := 1) (Lib.TabBelow.here h) (by kernel_rfl) j (by unfold tabZ; rw [List.length_map]; exact hj)
  have hl : j < Lib.deBruijn64tab.length := hj
  simpa [tabZ, List.getD, List.getElem?_eq_getElem hl] using h1
theorem iTz64 (w : World) (x : Nat) (hx : x < 16777216) (h0 : x ≠ 0) (B : Nat) (ht : TabZ B w) :
    Calls Tryd.prog 90 #[.int .u64 x] w fun e w' => e = .returned (.int .i64 (Lib.ctz 64 x : Nat)) ∧ w = w' := by
  have hx64 : x < 18446744073709551616 := Nat.lt_trans hx (by decide)
  obtain ⟨hlow, hk⟩ := Lib.lowest_bit 64 x h0 hx64
  obtain ⟨hi, htab⟩ := Lib.deBruijn64_at _ hk
  have hcell := ht.at _ hi
  rw [htab] at hcell
  have key := tz64_key x _ hx64 h0 hlow
  have hx0 : ((x : Int) == 0) = false := by simp; omega
  obtain ⟨k, hkk⟩ : ∃ k, Lib.ctz 64 x = k := ⟨_, rfl⟩
  rw [hkk] at hcell hk
  rw [hkk]
  obtain ⟨idx, hidx⟩ : ∃ i, 2 ^ Lib.ctz 64 x * 285870213051353865 % 18446744073709551616 / 288230376151711744 = i := ⟨_, rfl⟩
  rw [hidx] at key hi
  rw [hkk] at hidx
  rw [hidx] at hcell
  clear htab hlow hkk hidx h0 ht
  go_enter Tryd.func90, Tryd.ntmps90
  go_wp2_with (simp only [key])
  go_ret
  exact ⟨rfl, rfl⟩
theorem iTz (w : World) (x : Nat) (hx : x < 16777216) (h0 : x ≠ 0) (B : Nat) (ht : TabZ B w) :
    Calls Tryd.prog 85 #[.int .u64 x] w fun e w' => e = .returned (.int .i64 (Lib.ctz 64 x : Nat)) ∧ w = w' := by
  have HX := Lib.hid hx
  have H0 := Lib.hid h0
  have HT := Lib.hid ht
  clear ht h0
  go_enter Tryd.func85, Tryd.ntmps85
  go_wp2_with (go_at_call 90; refine (iTz64 _ x HX.out H0.out B HT.out).mono ?_; rintro e w1 ⟨rfl, rfl⟩)
  go_ret
  exact ⟨rfl, rfl⟩
theorem iLeast (w : World) (x : Nat) (hx : x < 16777216) (h0 : x ≠ 0) (B : Nat) (ht : TabZ B w) :
    Calls Tryd.prog 76 #[.int .u64 x] w fun e w' => e = .returned (.int .i64 (Lib.ctz 64 x : Nat)) ∧ w = w' := by
  have HX := Lib.hid hx
  have H0 := Lib.hid h0
  have HT := Lib.hid ht
  clear ht h0
  go_enter Tryd.func76, Tryd.ntmps76
  go_wp2_with (go_at_call 85; refine (iTz _ x HX.out H0.out B HT.out).mono ?_; rintro e w1 ⟨rfl, rfl⟩)
  go_ret
  exact ⟨rfl, rfl⟩
set_option maxHeartbeats 1000000 in
theorem each_in (n : Nat) (s : Nat) (hs : s < 2 ^ 24) (B l : Nat) (J : List Nat → World → Prop) (hT : ∀ pre W, J pre W → TabZ B W)
    (hY : ∀ pre x W, J pre W → x < 24 → s.testBit x = true → pre.length < 24 → YieldAt Fence.wide (n - 1) Tryd.prog l #[.int .i64 (x : Nat)] W fun e W' => e = .returned (.bool true) ∧ J (pre ++ [x]) W')
    (W : World) (h0 : J [] W) :
    CallsIn Fence.wide n Tryd.prog 64 #[.int .u64 s, .func (.yield l) #[] #[]] W fun e W' => (∃ v, e = .returned v) ∧ J (bitsN s) W' := by
  have HS := Lib.hid hs
  have HY := Lib.hid hY
  have HTB := Lib.hid hT
  clear hs hY hT
  refine callsIn_of_wp Tryd.func64 rfl trivial ?_ rfl
  simp only [Tryd.ntmps64, List.size_toArray, List.length_cons, List.length_nil, Nat.reduceAdd, Nat.reduceSub, Array.replicate_succ, Array.replicate_zero, List.push_toArray, List.append_toArray, List.nil_append, List.cons_append]
  gi_wp2
  gi_loopw [4] (fun r wr => ∃ k R : Nat, k ≤ 24 ∧ r = .int .u64 (R : Nat) ∧ Hid (restK s k = R) ∧ J (upK s k) wr) (fun r _ => (intOf r).toNat)
  case atStart => exact ⟨0, s, by omega, rfl, Lib.hid (restK_zero s), h0⟩
  case round =>
    obtain ⟨k, R, hk, rfl, HR, hJ⟩ := hrel
    by_cases hz : R = 0
    · have HE := Lib.hid (restK_end (a := s) (k := k) (by rw [HR.out, hz]) hk)
      subst hz
      have hn0 : ((((0 : Nat) : Int)) == 0) = true := rfl
      gi_wp2
      go_end0
      exact ⟨⟨_, rfl⟩, by rw [← HE.out]; exact hJ⟩
    · obtain ⟨t, ht, hkt, ht24, hu, hand, hlt⟩ := rest_step (a := s) (k := k) HS.out (by rw [HR.out]; exact hz)
      rw [HR.out] at ht hand hlt
      have hRlt : R < 16777216 := by
        rw [← HR.out]; exact Nat.lt_of_le_of_lt (restK_le s k) HS.out
      have H1 := Lib.hid hRlt
      have H2 := Lib.hid hz
      have hne : ((R : Int) == 0) = false := by simp; omega
      obtain ⟨R2, HR2⟩ : ∃ R2, Hid (restK s (t + 1) = R2) := ⟨_, Lib.hid rfl⟩
      rw [HR2.out] at hand hlt
      have HBB : Hid (bits .and .u64 (R : Int) (IntKind.u64.wrap ((R : Int) - 1)) = (R2 : Int)) := Lib.hid (by
        rw [← hand, ← bits_and_u64_nat R (R - 1) (by omega) (by omega), IntKind.wrap_u64]
        congr 1; omega)
      have HTT := Lib.hid ht
      have HU := Lib.hid hu
      have HLT := Lib.hid hlt
      have HT24 := Lib.hid ht24
      have HJ := Lib.hid hJ
      obtain ⟨fn, tmps, assign, body, hy, hR⟩ := HY.out (upK s k) t wr hJ ht24 (upK_mem (k := t + 1) (by rw [hu]; simp)).2 (Nat.lt_of_le_of_lt (upK_len s k) (by omega))
      clear ht hu hlt hand hz hJ
      gi_wp2
      refine ⟨trivial, fun h => (by simp [Fence.wide] at h), ?_⟩
      refine (callsIn_wide.2 (iLeast _ R H1.out H2.out B (HTB.out _ _ HJ.out))).mono ?_
      rw [HTT.out]
      rintro e w3 ⟨rfl, rfl⟩
      gi_wp2
      refine ⟨fun h => (by simp [Fence.wide] at h), hR.mono ?_⟩
      rintro e W3 ⟨rfl, hJ3⟩
      gi_wp2
      go_roundw
      case rel => exact ⟨t + 1, R2, by omega, by rw [HBB.out], HR2, by rw [HU.out]; exact hJ3⟩
      case measure => rw [HBB.out]; have := HLT.out; simp [intOf]; omega
end Go.Proofs.YtehdneppleifdaaDoor

namespace Go.Proofs.YtehdneppleifdaaDoor
open Go.RowKit
set_option maxRecDepth 1000000
/-- W keeps all that stood in W0. -/
def On (W0 W : World) : Prop := Below W0.heap.size W0 W
theorem On.step {W0 W W' : World} (o : On W0 W) (h : Below W.heap.size W W') : On W0 W' := Below.trans o (h.mono (Below.size o))
theorem On.drew {W0 W : World} (o : On W0 W) : On W0 W.drew := Below.drew o
theorem On.ints {W0 W : World} {a : Option Addr} {l : List Int} (o : On W0 W) (h : Ints W0 a l) : Ints W a l := h.below rfl o
theorem On.cell {W0 W : World} {p : Addr} {v : Value} (o : On W0 W) (h : W0.cell? p = some v) : W.cell? p = some v := keepC o (World.block_lt_of_cell? W0 _ h) h
theorem On.tab {W0 W : World} {B : Nat} (o : On W0 W) (hB : B ≤ W0.heap.size) (h : TabZ B W0) : TabZ B W := h.on (Below.mono o hB)
/-- What stands when a group has been drawn and laid into its variable. -/
theorem laid_of {w w0 w1 : World} {au : Option Addr} {cu B : Nat} {l : List Int} (hw : Below B w w0) (hB : B ≤ w0.heap.size) (ho : w1.ownsRow w0.heap.size 3 1 (.slice au l.length cu) l.length (l.map (Value.int .i64))) (hb : Below w0.heap.size w0 w1) :
    Below B w (w1.alloc (.cells #[.slice au l.length cu] 26)) ∧ Ints (w1.alloc (.cells #[.slice au l.length cu] 26)) au l ∧ (w1.alloc (.cells #[.slice au l.length cu] 26)).cell? ⟨w1.heap.size, 0, none⟩ = some (.slice au l.length cu) ∧ B ≤ (w1.alloc (.cells #[.slice au l.length cu] 26)).heap.size := by
  have h1 := hb.size
  refine ⟨(hw.trans (hb.mono hB)).trans ((Joins.below_alloc1 w1 _).mono (by omega)), own_ints' rfl (ho.alloc _), newC w1 _ _ rfl, by simp; omega⟩
theorem CodeIn.keep {w w' : World} {a : Option Addr} {len : Nat} (h : CodeIn w a len) (hb : Below w.heap.size w w') : CodeIn w' a len := h.below hb
end Go.Proofs.YtehdneppleifdaaDoor

namespace Go.Proofs.YtehdneppleifdaaDoor
theorem mem_bits {m : Nat} (h : m < 2 ^ 24) (x : Nat) : x ∈ bitsN m ↔ m.testBit x = true := by
  constructor
  · exact fun hx => (upK_mem hx).2
  · intro hb
    unfold bitsN upK
    rw [List.mem_filter, List.mem_range]
    refine ⟨?_, hb⟩
    rcases Nat.lt_or_ge x 24 with h1 | h1
    · exact h1
    · rw [bit_no h x h1] at hb; cases hb
theorem bits_nodup (m : Nat) : (bitsN m).Nodup := by
  unfold bitsN upK
  exact List.Pairwise.filter _ List.nodup_range
theorem orF_bit (f : Nat → Int) (L : List Nat) (k : Nat) : (orF f L).testBit k = true ↔ ∃ x ∈ L, (f x).toNat = k := by
  have : ∀ (L : List Nat) (s : Nat), (L.foldl (fun s x => s ||| 2 ^ (f x).toNat) s).testBit k = true ↔ s.testBit k = true ∨ ∃ x ∈ L, (f x).toNat = k := by
    intro L
    induction L with
    | nil => intro s; simp
    | cons x t ih =>
      intro s
      rw [List.foldl_cons, ih, Nat.testBit_or, Nat.testBit_two_pow, Bool.or_eq_true, decide_eq_true_eq]
      simp only [List.mem_cons]
      constructor
      · rintro ((h | h) | ⟨y, hy, h⟩)
        · exact .inl h
        · exact .inr ⟨x, .inl rfl, h⟩
        · exact .inr ⟨y, .inr hy, h⟩
      · rintro (h | ⟨y, rfl | hy, h⟩)
        · exact .inl (.inl h)
        · exact .inl (.inr h)
        · exact .inr ⟨y, hy, h⟩
  unfold orF
  rw [this L 0]; simp
/-- The number of a set that is moved by f lies within the group, if f does. -/
theorem orF_set {l : List Int} (hg : grpB l = true) (f : Nat → Int) (L : List Nat) (hf : ∀ x, 0 ≤ f x ∧ f x < prodI l) : isS l ((orF f L : Nat) : Int) = true := by
  have hlt := orF_lt f L (prodI l).toNat (fun x _ => by have := hf x; omega)
  simp only [isS, hg, fullN_nat, Bool.true_and, Bool.and_eq_true, decide_eq_true_eq]
  generalize orF f L = A at *
  generalize 2 ^ (prodI l).toNat = N at *
  omega
end Go.Proofs.YtehdneppleifdaaDoor

namespace Go.Proofs.YtehdneppleifdaaDoor
theorem sdig_bndO {l : List Int} (h : Ords l) (x y : Int) {j : Nat} (hj : j < l.length) : 0 ≤ sdig l x y j ∧ sdig l x y j < l.getD j 0 := by
  have := h.pos j hj
  exact ⟨Int.emod_nonneg _ (by omega), Int.emod_lt_of_pos _ (by omega)⟩
theorem addN_dig {l : List Int} (h : Ords l) (x y : Int) {j : Nat} (hj : j < l.length) : dig l (addN l x y) j = (dig l x j + dig l y j) % l.getD j 0 := by
  rw [← sdig_eq]
  exact dig_val h _ _ _ hj (Nat.le_refl _) (fun _ hi => sdig_bndO h x y hi)
theorem addN_in {l : List Int} (h : Ords l) (x y : Int) : 0 ≤ addN l x y ∧ addN l x y < prodI l := by
  rw [← PK_full]; exact h.val_bnd _ (fun j hj => sdig_bndO h x y hj) _ (Nat.le_refl _)
theorem addN_comm (l : List Int) (x y : Int) : addN l x y = addN l y x := by
  apply val_congr
  intro j _
  rw [sdig_eq, sdig_eq, Int.add_comm]
theorem addN_assoc {l : List Int} (h : Ords l) (x y z : Int) : addN l (addN l x y) z = addN l x (addN l y z) := by
  apply val_congr
  intro j hj
  rw [sdig_eq, sdig_eq, addN_dig h x y hj, addN_dig h y z hj, Int.emod_add_emod, Int.add_emod_emod, Int.add_assoc]
theorem dig_zero0 (l : List Int) (j : Nat) : dig l 0 j = 0 := by unfold dig; simp
theorem addN_zero {l : List Int} (h : Ords l) {x : Int} (h0 : 0 ≤ x) (h1 : x < prodI l) : addN l x 0 = x := by
  have e : addN l x 0 = valK l (dig l x) l.length := by
    apply val_congr
    intro j _
    rw [sdig_eq, dig_zero0, Int.add_zero]
    unfold dig; rw [Int.emod_emod]
  rw [e, val_dig h h0 h1]
theorem addN_neg {l : List Int} (h : Ords l) (x : Int) : addN l x (negN l x) = 0 := by
  have e : addN l x (negN l x) = valK l (fun _ => 0) l.length := by
    apply val_congr
    intro j hj
    rw [sdig_eq]
    unfold negN
    rw [mulN_dig h x (-1) hj]
    unfold mulF
    rw [Int.add_emod_emod]
    rw [show dig l x j + dig l x j * -1 = 0 by omega]
    simp
  rw [e]
  have : ∀ k, valK l (fun _ => 0) k = 0 := by
    intro k; induction k with
    | zero => rfl
    | succ k ih => simp [valK, ih]
  exact this _
theorem add_neg_back {l : List Int} (h : Ords l) {x : Int} (y : Int) (h0 : 0 ≤ x) (h1 : x < prodI l) : addN l (addN l x y) (negN l y) = x := by
  rw [addN_assoc h, addN_neg h, addN_zero h h0 h1]
theorem negN_in {l : List Int} (h : Ords l) (x : Int) : 0 ≤ negN l x ∧ negN l x < prodI l := mulN_bnd h x (-1)
theorem negN_neg {l : List Int} (h : Ords l) {x : Int} (h0 : 0 ≤ x) (h1 : x < prodI l) : negN l (negN l x) = x := by
  show mulN l (negN l x) (-1) = x
  rw [mul_neg h, show (- -1 : Int) = 1 by decide, mulN_one h h0 h1]
/-- A list without doubles is no longer than one that holds it. -/
theorem len_le_of_sub : ∀ (L M : List Nat), L.Nodup → (∀ x ∈ L, x ∈ M) → L.length ≤ M.length
  | [], _, _, _ => by simp
  | x :: t, M, hn, hs => by
    rw [List.nodup_cons] at hn
    have hx := hs x (by simp)
    have := len_le_of_sub t (M.erase x) hn.2 (fun y hy => (List.mem_erase_of_ne (fun e => hn.1 (by rw [← e]; exact hy))).2 (hs y (by simp [hy])))
    rw [List.length_erase_of_mem hx] at this
    have := List.length_pos_of_mem hx
    rw [List.length_cons]; omega
end Go.Proofs.YtehdneppleifdaaDoor
