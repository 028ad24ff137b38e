/- Merged: Each EachL Round. -/
import Derived.Test.YtkejpikhlejmaaaGreatDoorSETB
import Derived.RangeFuncFrom
import Derived.RangeFuncBox
import Derived.RangeFuncNested
import Derived.RangeFuncBound
import Derived.RangeFuncCalls
import Derived.RangeFuncLeaves
import Derived.Shelf.Abstract
import Derived.Shelf.RegionOpen
import Derived.Shelf.Spec.TrailingZeros
import Derived.WalkKit
import Derived.OwnWalkIn
import Derived.TacticsInMore
import Derived.LoopNIn
import Derived.LoopIn
import Derived.Maps.AppendAt
import Derived.Lib.LaidTab
import Derived.Lib.AppendIntMem
import Derived.Deep.RegionHeld3
namespace Go.Proofs.YtkejpikhlejmaaaGreatDoor
open Go.RowKit Go.Shelf
attribute [local go_sem] Oper.semAt_some
set_option maxRecDepth 1000000
def tabZ : List Int := Lib.deBruijn64tab.map fun (n : Nat) => (n : Int)
/-- The library's table reads as it is laid, whatever is done from block B on. -/
def TabZ (B : Nat) (w : World) : Prop := Lib.TabBelow Tryz.prog B w "math/bits.deBruijn64tab" .u8 tabZ
theorem TabZ.on {B : Nat} {w w1 : World} (h : TabZ B w) (hb : Below B w w1) : TabZ B w1 := Lib.TabBelow.on h hb
theorem TabZ.at {B : Nat} {w : World} (h : TabZ B w) (j : Nat) (hj : j < 64) : w.cell? ⟨2, j, none⟩ = some (.int .u8 ((Lib.deBruijn64tab.getD j 0 : Nat) : Int)) := by
  have h1 := Lib.TabIs.cell (g := 2) (Lib.TabBelow.here h) (by kernel_rfl) j (by unfold tabZ; rw [List.length_map]; exact hj)
  have hl : j < Lib.deBruijn64tab.length := hj
  simpa [tabZ, List.getD, List.getElem?_eq_getElem hl] using h1
theorem iTz64 (w : World) (x : Nat) (hx : x < 16777216) (h0 : x ≠ 0) (B : Nat) (ht : TabZ B w) :
    Calls Tryz.prog 107 #[.int .u64 x] w fun e w' => e = .returned (.int .i64 (Lib.ctz 64 x : Nat)) ∧ w = w' := by
  have hx64 : x < 18446744073709551616 := Nat.lt_trans hx (by decide)
  obtain ⟨hlow, hk⟩ := Lib.lowest_bit 64 x h0 hx64
  obtain ⟨hi, htab⟩ := Lib.deBruijn64_at _ hk
  have hcell := ht.at _ hi
  rw [htab] at hcell
  have key := tz64_key x _ hx64 h0 hlow
  have hx0 : ((x : Int) == 0) = false := by simp; omega
  obtain ⟨k, hkk⟩ : ∃ k, Lib.ctz 64 x = k := ⟨_, rfl⟩
  rw [hkk] at hcell hk
  rw [hkk]
  obtain ⟨idx, hidx⟩ : ∃ i, 2 ^ Lib.ctz 64 x * 285870213051353865 % 18446744073709551616 / 288230376151711744 = i := ⟨_, rfl⟩
  rw [hidx] at key hi
  rw [hkk] at hidx
  rw [hidx] at hcell
  clear htab hlow hkk hidx h0 ht
  go_enter Tryz.func107, Tryz.ntmps107
  go_wp2_with (simp only [key])
  go_ret
  exact ⟨rfl, rfl⟩
theorem iTz (w : World) (x : Nat) (hx : x < 16777216) (h0 : x ≠ 0) (B : Nat) (ht : TabZ B w) :
    Calls Tryz.prog 99 #[.int .u64 x] w fun e w' => e = .returned (.int .i64 (Lib.ctz 64 x : Nat)) ∧ w = w' := by
  have HX := Lib.hid hx
  have H0 := Lib.hid h0
  have HT := Lib.hid ht
  clear ht h0
  go_enter Tryz.func99, Tryz.ntmps99
  go_wp2_with (go_at_call 107; refine (iTz64 _ x HX.out H0.out B HT.out).mono ?_; rintro e w1 ⟨rfl, rfl⟩)
  go_ret
  exact ⟨rfl, rfl⟩
theorem iLeast (w : World) (x : Nat) (hx : x < 16777216) (h0 : x ≠ 0) (B : Nat) (ht : TabZ B w) :
    Calls Tryz.prog 90 #[.int .u64 x] w fun e w' => e = .returned (.int .i64 (Lib.ctz 64 x : Nat)) ∧ w = w' := by
  have HX := Lib.hid hx
  have H0 := Lib.hid h0
  have HT := Lib.hid ht
  clear ht h0
  go_enter Tryz.func90, Tryz.ntmps90
  go_wp2_with (go_at_call 99; refine (iTz _ x HX.out H0.out B HT.out).mono ?_; rintro e w1 ⟨rfl, rfl⟩)
  go_ret
  exact ⟨rfl, rfl⟩
set_option maxHeartbeats 1000000 in
theorem each_in (n : Nat) (s : Nat) (hs : s < 2 ^ 24) (B l : Nat) (J : List Nat → World → Prop) (hT : ∀ pre W, J pre W → TabZ B W)
    (hY : ∀ pre x W, J pre W → x < 24 → s.testBit x = true → pre.length < 24 → YieldAt Fence.wide (n - 1) Tryz.prog l #[.int .i64 (x : Nat)] W fun e W' => e = .returned (.bool true) ∧ J (pre ++ [x]) W')
    (W : World) (h0 : J [] W) :
    CallsIn Fence.wide n Tryz.prog 71 #[.int .u64 s, .func (.yield l) #[] #[]] W fun e W' => (∃ v, e = .returned v) ∧ J (bitsN s) W' := by
  have HS := Lib.hid hs
  have HY := Lib.hid hY
  have HTB := Lib.hid hT
  clear hs hY hT
  refine callsIn_of_wp Tryz.func71 rfl trivial ?_ rfl
  simp only [Tryz.ntmps71, List.size_toArray, List.length_cons, List.length_nil, Nat.reduceAdd, Nat.reduceSub, Array.replicate_succ, Array.replicate_zero, List.push_toArray, List.append_toArray, List.nil_append, List.cons_append]
  gi_wp2
  gi_loopw [4] (fun r wr => ∃ k R : Nat, k ≤ 24 ∧ r = .int .u64 (R : Nat) ∧ Hid (restK s k = R) ∧ J (upK s k) wr) (fun r _ => (intOf r).toNat)
  case atStart => exact ⟨0, s, by omega, rfl, Lib.hid (restK_zero s), h0⟩
  case round =>
    obtain ⟨k, R, hk, rfl, HR, hJ⟩ := hrel
    by_cases hz : R = 0
    · have HE := Lib.hid (restK_end (a := s) (k := k) (by rw [HR.out, hz]) hk)
      subst hz
      have hn0 : ((((0 : Nat) : Int)) == 0) = true := rfl
      gi_wp2
      go_end0
      exact ⟨⟨_, rfl⟩, by rw [← HE.out]; exact hJ⟩
    · obtain ⟨t, ht, hkt, ht24, hu, hand, hlt⟩ := rest_step (a := s) (k := k) HS.out (by rw [HR.out]; exact hz)
      rw [HR.out] at ht hand hlt
      have hRlt : R < 16777216 := by
        rw [← HR.out]; exact Nat.lt_of_le_of_lt (restK_le s k) HS.out
      have H1 := Lib.hid hRlt
      have H2 := Lib.hid hz
      have hne : ((R : Int) == 0) = false := by simp; omega
      obtain ⟨R2, HR2⟩ : ∃ R2, Hid (restK s (t + 1) = R2) := ⟨_, Lib.hid rfl⟩
      rw [HR2.out] at hand hlt
      have HBB : Hid (bits .and .u64 (R : Int) (IntKind.u64.wrap ((R : Int) - 1)) = (R2 : Int)) := Lib.hid (by
        rw [← hand, ← bits_and_u64_nat R (R - 1) (by omega) (by omega), IntKind.wrap_u64]
        congr 1; omega)
      have HTT := Lib.hid ht
      have HU := Lib.hid hu
      have HLT := Lib.hid hlt
      have HT24 := Lib.hid ht24
      have HJ := Lib.hid hJ
      obtain ⟨fn, tmps, assign, body, hy, hR⟩ := HY.out (upK s k) t wr hJ ht24 (upK_mem (k := t + 1) (by rw [hu]; simp)).2 (Nat.lt_of_le_of_lt (upK_len s k) (by omega))
      clear ht hu hlt hand hz hJ
      gi_wp2
      refine ⟨trivial, fun h => (by simp [Fence.wide] at h), ?_⟩
      refine (callsIn_wide.2 (iLeast _ R H1.out H2.out B (HTB.out _ _ HJ.out))).mono ?_
      rw [HTT.out]
      rintro e w3 ⟨rfl, rfl⟩
      gi_wp2
      refine ⟨fun h => (by simp [Fence.wide] at h), hR.mono ?_⟩
      rintro e W3 ⟨rfl, hJ3⟩
      gi_wp2
      go_roundw
      case rel => exact ⟨t + 1, R2, by omega, by rw [HBB.out], HR2, by rw [HU.out]; exact hJ3⟩
      case measure => rw [HBB.out]; have := HLT.out; simp [intOf]; omega
end Go.Proofs.YtkejpikhlejmaaaGreatDoor

namespace Go.Proofs.YtkejpikhlejmaaaGreatDoor
open Go.RowKit Go.Shelf
set_option maxRecDepth 1000000
/-- How the body of a round ends: it goes on; what is no cells lies as it lay; the invariant holds of one element more. -/
def eachPost (I : List Nat → World → Prop) (xs : List Nat) (W : World) : Exit → Act → World → Prop := fun e _ W' => e = .normal ∧ KeepsOthers W W' ∧ I xs W'
set_option maxHeartbeats 1000000 in
theorem each_loopB {n : Nat} {g : Operand} {p : Tmp} {assign body : Code} {Q : Exit → Act → World → Prop} {a : Act} {w : World}
    (s : Nat) (hs : s < 2 ^ 24) (hg : a.eval g = .func (.func 71) #[.int .u64 s] #[]) (B : Nat)
    (I : List Nat → World → Prop) (hI : OwnFrom w.heap.size I) (hT : ∀ pre W, I pre W → TabZ B W) (h0 : I [] w) (a₁ : Nat → Act)
    (hassign : ∀ (l x : Nat) (W : World) (K : Act → World → Prop), K (a₁ x) W →
      assign.wpIn (Fence.wide.inRound l) (n - 1 - 1) Tryz.prog (Exit.then K (fun _ _ _ => False)) { tmps := a.tmps.setIfInBounds p (.int .i64 (x : Nat)), defers := [] } W)
    (hbody : ∀ (l : Nat) (pre : List Nat) (x : Nat) (W : World), x < 24 → s.testBit x = true → pre.length < 24 → I pre W →
      body.wpIn (Fence.wide.inRound l) (n - 1 - 1) Tryz.prog (eachPost I (pre ++ [x]) W) (a₁ x) W)
    (hdone : ∀ (D : Nat) (W : World), w.heap.size ≤ D → I (bitsN s) W → W.heap[D]? = some (.deferred (some [])) →
      Q .normal { a with defers := { target := .collected D, args := #[] } :: a.defers } W) :
    (Code.rangeFunc g #[p] assign body).wpIn Fence.wide n Tryz.prog Q a w := by
  refine wpIn_rangeFunc ?_
  intro fn hfn
  -- the statement's own block of deferred calls, and the loop's record behind it
  generalize hD : w.heap.size = D at *
  let lp : LoopState → Loop := fun st => { state := st, pending := none, fn := fn, tmps := a.tmps, params := #[p], assign := assign, body := body, defers := D }
  have elp : ∀ st, lp st = { state := st, pending := none, fn := fn, tmps := a.tmps, params := #[p], assign := assign, body := body, defers := D } := fun _ => rfl
  let V := (w.alloc (.deferred (some []))).alloc (.loop (lp .ready))
  have vL : V.heap[D + 1]? = some (.loop (lp .ready)) := by
    have h := World.alloc_heap_new (w.alloc (.deferred (some []))) (.loop (lp .ready))
    rwa [World.size_alloc, hD] at h
  have vD : V.heap[D]? = some (.deferred (some [])) := by
    have h := World.alloc_heap_new w (.deferred (some []))
    rw [hD] at h
    exact (Below.heap_alloc _ _ _ (by simp; omega)).trans h
  have vI : I [] V := hI.alloc _ (hI.alloc _ h0)
  have henter : (Instr.enterLoop fn a.tmps #[p] assign body Fence.wide.round).run Tryz.prog w = .ok (D + 1, [{ target := .collected D, args := #[] }]) V := by
    have h := run_enterLoop_outer (P := Tryz.prog) (w := w) fn a.tmps #[p] assign body
    rw [hD] at h
    exact h
  have eg := enters_of (P := Tryz.prog) Tryz.func71 (by kernel_rfl) rfl
  refine ⟨D + 1, [{ target := .collected D, args := #[] }], V, { target := .fn (.func 71) #[], args := #[.int .u64 s, .func (.yield (D + 1)) #[] #[]] }, V, 71,
    #[.int .u64 s, .func (.yield (D + 1)) #[] #[]], V, henter, ?_, fun _ _ => trivial, ?_, fun h => (by simp [Fence.wide] at h), ?_⟩
  · simp only [resolve, hg]
    simp [go_sem]
  · simp [invoke, go_sem, eg _ _]
  -- what holds between two rounds: the caller's invariant, the record ready, the block as it was laid
  refine (each_in (n - 1) s hs B (D + 1) (fun pre W => I pre W ∧ W.heap[D + 1]? = some (.loop (lp .ready)) ∧ W.heap[D]? = some (.deferred (some [])))
    (fun pre W h => hT pre W h.1) ?round V (And.intro vI (And.intro vL vD))).mono ?done
  case round =>
    rintro pre x W ⟨hi, hl, hk⟩ hx hbt hpl
    have hin : D + 1 < W.heap.size := (Array.getElem?_eq_some_iff.1 hl).1
    have hy := run_yield (P := Tryz.prog) (args := #[Value.int .i64 (x : Nat)]) hl (by rw [elp]; rfl)
    have hy2 : (Instr.yield (D + 1) #[Value.int .i64 (x : Nat)]).run Tryz.prog W = .ok (.round (D + 1) fn (a.tmps.setIfInBounds p (.int .i64 (x : Nat))) assign body) W := by
      rw [hy, elp]; simp
    refine ⟨fn, _, assign, body, hy2, roundIn_of_wpIn hfn ?_⟩
    refine hassign (D + 1) x W _ ⟨_, run_beginRound hl (by rw [elp]), ?_⟩
    -- the record is busy: the body
    obtain ⟨U, hU⟩ : ∃ U, W.putObj (D + 1) (.loop { lp .ready with state := .busy }) = U := ⟨_, rfl⟩
    have uI : I pre U := by rw [← hU]; exact hI.putObj _ hi (by omega) hl rfl
    have uL : U.heap[D + 1]? = some (.loop { lp .ready with state := .busy }) := by rw [← hU]; exact World.putObj_heap_same hin
    have uD : U.heap[D]? = some (.deferred (some [])) := by rw [← hU]; exact (World.putObj_heap_other (by omega)).trans hk
    rw [hU]
    refine wpIn_mono (hbody _ pre x U hx hbt hpl uI) ?_
    rintro e a3 W3 ⟨rfl, hkeep, hi3⟩
    have l3 := hkeep.same _ _ uL rfl
    have d3 := hkeep.same _ _ uD rfl
    have hend := run_endRound (P := Tryz.prog) none l3
    have hin3 : D + 1 < W3.heap.size := (Array.getElem?_eq_some_iff.1 l3).1
    refine ⟨_, _, hend, rfl, hI.putObj _ hi3 (by omega) l3 rfl, ?_, (World.putObj_heap_other (by omega)).trans d3⟩
    exact World.putObj_heap_same hin3
  case done =>
    rintro e W2 ⟨⟨v, rfl⟩, hi, hl, hk⟩
    have hend := run_endLoop (P := Tryz.prog) hl (by rw [elp]; simp)
    exact ⟨none, _, hend, hdone D _ (by omega) (hI.putObj _ hi (by omega) hl rfl) ((World.putObj_heap_other (by omega)).trans hk)⟩
theorem each_loop {n : Nat} {g : Operand} {p : Tmp} {assign body : Code} {Q : Exit → Act → World → Prop} {a : Act} {w : World}
    (s : Nat) (hs : s < 2 ^ 24) (hg : a.eval g = .func (.func 71) #[.int .u64 s] #[]) (B : Nat)
    (I : List Nat → World → Prop) (hI : OwnFrom w.heap.size I) (hT : ∀ pre W, I pre W → TabZ B W) (h0 : I [] w) (a₁ : Nat → Act)
    (hassign : ∀ (l x : Nat) (W : World) (K : Act → World → Prop), K (a₁ x) W →
      assign.wpIn (Fence.wide.inRound l) (n - 1 - 1) Tryz.prog (Exit.then K (fun _ _ _ => False)) { tmps := a.tmps.setIfInBounds p (.int .i64 (x : Nat)), defers := [] } W)
    (hbody : ∀ (l : Nat) (pre : List Nat) (x : Nat) (W : World), x < 24 → pre.length < 24 → I pre W →
      body.wpIn (Fence.wide.inRound l) (n - 1 - 1) Tryz.prog (eachPost I (pre ++ [x]) W) (a₁ x) W)
    (hdone : ∀ (D : Nat) (W : World), w.heap.size ≤ D → I (bitsN s) W → W.heap[D]? = some (.deferred (some [])) →
      Q .normal { a with defers := { target := .collected D, args := #[] } :: a.defers } W) :
    (Code.rangeFunc g #[p] assign body).wpIn Fence.wide n Tryz.prog Q a w :=
  each_loopB s hs hg B I hI hT h0 a₁ hassign (fun l pre x W hx _ hpl hi => hbody l pre x W hx hpl hi) hdone
theorem each_loopP {n : Nat} {g : Operand} {p : Tmp} {assign body : Code} {Q : Exit → Act → World → Prop} {a : Act} {w : World}
    (s : Nat) (hs : s < 2 ^ 24) (hg : a.eval g = .func (.func 71) #[.int .u64 s] #[]) (B : Nat)
    (I : List Nat → World → Prop) (hI : OwnFrom w.heap.size I) (hT : ∀ pre W, I pre W → TabZ B W) (h0 : I [] w) (a₁ : Nat → Act)
    (hassign : ∀ (l x : Nat) (W : World) (K : Act → World → Prop), K (a₁ x) W →
      assign.wpIn (Fence.wide.inRound l) (n - 1 - 1) Tryz.prog (Exit.then K (fun _ _ _ => False)) { tmps := a.tmps.setIfInBounds p (.int .i64 (x : Nat)), defers := [] } W)
    (hbody : ∀ (l : Nat) (pre : List Nat) (x : Nat) (W : World), (∀ z ∈ pre, s.testBit z = true) → s.testBit x = true → pre.length < 24 → I pre W →
      body.wpIn (Fence.wide.inRound l) (n - 1 - 1) Tryz.prog (eachPost I (pre ++ [x]) W) (a₁ x) W)
    (hdone : ∀ (D : Nat) (W : World), w.heap.size ≤ D → I (bitsN s) W → W.heap[D]? = some (.deferred (some [])) →
      Q .normal { a with defers := { target := .collected D, args := #[] } :: a.defers } W) :
    (Code.rangeFunc g #[p] assign body).wpIn Fence.wide n Tryz.prog Q a w :=
  each_loopB s hs hg B (fun pre W => I pre W ∧ ∀ z ∈ pre, s.testBit z = true) (OwnFrom.and hI (fun _ _ _ _ hs _ _ => hs)) (fun pre W h => hT pre W h.1) ⟨h0, fun z hz => by cases hz⟩ a₁ hassign
    (fun l pre x W _ hb hpl hi => wpIn_mono (hbody l pre x W hi.2 hb hpl hi.1) (fun _ _ _ ⟨h1, h2, h3⟩ => ⟨h1, h2, h3, fun z hz => by
      rcases List.mem_append.1 hz with h | h
      · exact hi.2 z h
      · rw [List.mem_singleton.1 h]; exact hb⟩)) (fun D W hD hi hk => hdone D W hD hi.1 hk)
end Go.Proofs.YtkejpikhlejmaaaGreatDoor

namespace Go.Proofs.YtkejpikhlejmaaaGreatDoor
open Go.RowKit Go.Shelf
section
variable {P : Program} {Q : Exit → Act → World → Prop} {l n : Nat}
theorem oper_round {o : Oper} {a : Act} {w : World} {K K' : Act → World → Prop} (hd : ∀ c, o.op ≠ .defer c) (h : o.wp P a w K Q) (hK : ∀ a w, K a w → K' a w) :
    o.wpIn (Fence.wide.inRound l) n P a w K' Q := by
  unfold Oper.wp at h
  unfold Oper.wpIn
  refine ⟨fun _ _ => trivial, ?_⟩
  rw [Oper.semAt_eq _ _ _ hd]
  generalize (execOp a.eval o).run P w = r at h
  have hno : (Fence.wide.inRound l).depth.isSome = true → 1 ≤ n := fun e => by simp [Fence.wide] at e
  cases r with
  | ok x w' =>
    cases x with
    | value v => exact hK _ _ h
    | skip => exact hK _ _ h
    | defer d => exact hK _ _ h
    | enter f args =>
      refine ⟨hno, CallsIn.inRound l (callsIn_wide.2 (Calls.mono h ?_))⟩
      intro e w'' he
      cases e with
      | returned v => exact hK _ _ he
      | panicked c => exact he
      | outgrown => exact he
    | row row args =>
      refine ⟨hno, fun c cs _ => ?_⟩
      obtain ⟨v, w'', r, s⟩ := h c cs
      exact ⟨v, w'', hK _ _ r, stepsIn_wide.2 s⟩
    | _ => exact (h : False).elim
  | halt x w' =>
    cases x with
    | panic v => exact h
    | _ => exact (h : False).elim
theorem any_round {md : Region.Mode} {ops : Array Oper} (hd : ∀ (i : Nat) (o : Oper), ops[i]? = some o → ∀ c, o.op ≠ .defer c) (hQ : ¬ LetsOut Q) :
    ∀ (fuel : Nat) (listed : Array Bool) (a : Act) (w : World), wpAny P md ops Q fuel listed a w → wpAnyIn (Fence.wide.inRound l) n P md ops Q fuel listed a w
  | 0, _, _, _, h => h
  | fuel + 1, listed, a, w, h => ⟨h.1, fun i hi => by
    have h2 := h.2 i hi
    unfold wpOp at h2
    unfold wpOpIn
    cases ho : ops[i]? with
    | none => rw [ho] at h2; exact any_round hd hQ fuel _ _ _ h2
    | some o =>
      rw [ho] at h2
      simp only at h2 ⊢
      split
      · next hw =>
        rw [if_pos hw] at h2
        rcases h2 with h3 | h3
        · exact oper_round (hd i o ho) h3 (fun a w h4 => any_round hd hQ fuel _ _ _ h4)
        · exact absurd h3.2 hQ
      · next hw =>
        rw [if_neg hw] at h2
        exact ⟨fun _ _ => trivial, any_round hd hQ fuel _ _ _ h2⟩⟩
theorem region_round {id : Nat} {ops : Array Oper} {S : World → Prop} {a : Act} {w : World} (hm : P.follows .mixedOrders = true) (hd : ∀ (i : Nat) (o : Oper), ops[i]? = some o → ∀ c, o.op ≠ .defer c) (hQ : ¬ LetsOut Q) (hS : S w.drew)
    (h : S w.drew → wpAnyH P .any ops Q S ops.size (Array.replicate ops.size false) a w.drew) : (Code.region id ops true).wpIn (Fence.wide.inRound l) n P Q a w :=
  wpIn_region_any hm (any_round hd hQ _ _ _ _ (wpAny_of_held _ _ _ _ (h hS)))
end
end Go.Proofs.YtkejpikhlejmaaaGreatDoor
