/- Merged: EachX GrpOrd. -/
import Derived.Test.YtaacofbmbpkeoaaGreatDoorMGAI
import Derived.ChangeKeysEq
import Derived.Laws.StructEq
namespace Go.Proofs.YtaacofbmbpkeoaaGreatDoor
open Go.RowKit Go.Shelf
attribute [local go_sem] Oper.semAt_some
set_option maxRecDepth 1000000
theorem each_inX (n : Nat) (s : Nat) (hs : s < 2 ^ 24) (B l : Nat) (J : List Nat → World → Prop) (Jx : World → Prop) (hT : ∀ pre W, J pre W → TabZ B W)
    (hY : ∀ pre x W, J pre W → x < 24 → s.testBit x = true → pre.length < 24 → YieldAt Fence.wide (n - 1) Tryz.prog l #[.int .i64 (x : Nat)] W fun e W' => (e = .returned (.bool true) ∧ J (pre ++ [x]) W') ∨ (e = .returned (.bool false) ∧ Jx W'))
    (W : World) (h0 : J [] W) :
    CallsIn Fence.wide n Tryz.prog 68 #[.int .u64 s, .func (.yield l) #[] #[]] W fun e W' => (∃ v, e = .returned v) ∧ (J (bitsN s) W' ∨ Jx W') := by
  have HS := Lib.hid hs
  have HY := Lib.hid hY
  have HTB := Lib.hid hT
  clear hs hY hT
  refine callsIn_of_wp Tryz.func68 rfl trivial ?_ rfl
  simp only [Tryz.ntmps68, List.size_toArray, List.length_cons, List.length_nil, Nat.reduceAdd, Nat.reduceSub, Array.replicate_succ, Array.replicate_zero, List.push_toArray, List.append_toArray, List.nil_append, List.cons_append]
  gi_wp2
  gi_loopw [4] (fun r wr => ∃ k R : Nat, k ≤ 24 ∧ r = .int .u64 (R : Nat) ∧ Hid (restK s k = R) ∧ J (upK s k) wr) (fun r _ => (intOf r).toNat)
  case atStart => exact ⟨0, s, by omega, rfl, Lib.hid (restK_zero s), h0⟩
  case round =>
    obtain ⟨k, R, hk, rfl, HR, hJ⟩ := hrel
    by_cases hz : R = 0
    · have HE := Lib.hid (restK_end (a := s) (k := k) (by rw [HR.out, hz]) hk)
      subst hz
      have hn0 : ((((0 : Nat) : Int)) == 0) = true := rfl
      gi_wp2
      go_end0
      exact ⟨⟨_, rfl⟩, .inl (by rw [← HE.out]; exact hJ)⟩
    · obtain ⟨t, ht, hkt, ht24, hu, hand, hlt⟩ := rest_step (a := s) (k := k) HS.out (by rw [HR.out]; exact hz)
      rw [HR.out] at ht hand hlt
      have hRlt : R < 16777216 := by
        rw [← HR.out]; exact Nat.lt_of_le_of_lt (restK_le s k) HS.out
      have H1 := Lib.hid hRlt
      have H2 := Lib.hid hz
      have hne : ((R : Int) == 0) = false := by simp; omega
      obtain ⟨R2, HR2⟩ : ∃ R2, Hid (restK s (t + 1) = R2) := ⟨_, Lib.hid rfl⟩
      rw [HR2.out] at hand hlt
      have HBB : Hid (bits .and .u64 (R : Int) (IntKind.u64.wrap ((R : Int) - 1)) = (R2 : Int)) := Lib.hid (by
        rw [← hand, ← bits_and_u64_nat R (R - 1) (by omega) (by omega), IntKind.wrap_u64]
        congr 1; omega)
      have HTT := Lib.hid ht
      have HU := Lib.hid hu
      have HLT := Lib.hid hlt
      have HT24 := Lib.hid ht24
      have HJ := Lib.hid hJ
      obtain ⟨fn, tmps, assign, body, hy, hR⟩ := HY.out (upK s k) t wr hJ ht24 (upK_mem (k := t + 1) (by rw [hu]; simp)).2 (Nat.lt_of_le_of_lt (upK_len s k) (by omega))
      clear ht hu hlt hand hz hJ
      gi_wp2
      refine ⟨trivial, fun h => (by simp [Fence.wide] at h), ?_⟩
      refine (callsIn_wide.2 (iLeast _ R H1.out H2.out B (HTB.out _ _ HJ.out))).mono ?_
      rw [HTT.out]
      rintro e w3 ⟨rfl, rfl⟩
      gi_wp2
      refine ⟨fun h => (by simp [Fence.wide] at h), hR.mono ?_⟩
      rintro e W3 (⟨rfl, hJ3⟩ | ⟨rfl, hX3⟩)
      rotate_left
      · gi_wp2
        exact bodyPost_ret (v := .tuple #[]) (by simp [results, Tryz.results68, go_sem]) rfl ⟨⟨_, rfl⟩, .inr hX3⟩
      gi_wp2
      go_roundw
      case rel => exact ⟨t + 1, R2, by omega, by rw [HBB.out], HR2, by rw [HU.out]; exact hJ3⟩
      case measure => rw [HBB.out]; have := HLT.out; simp [intOf]; omega
/-- How the body of a round ends: it goes on, or it returns. -/
def eachPostX (I : List Nat → World → Prop) (Ix : World → Prop) (xs : List Nat) (W : World) : Exit → Act → World → Prop := fun e _ W' => (e = .normal ∧ KeepsOthers W W' ∧ I xs W') ∨ (e = .ret ∧ KeepsOthers W W' ∧ Ix W')
set_option maxHeartbeats 1000000 in
theorem each_loopX {n : Nat} {g : Operand} {p : Tmp} {assign body : Code} {Q : Exit → Act → World → Prop} {a : Act} {w : World}
    (s : Nat) (hs : s < 2 ^ 24) (hg : a.eval g = .func (.func 68) #[.int .u64 s] #[]) (B : Nat)
    (I : List Nat → World → Prop) (Ix : World → Prop) (hI : OwnFrom w.heap.size I) (hIx : OwnFrom w.heap.size (fun (_ : List Nat) W => Ix W)) (hT : ∀ pre W, I pre W → TabZ B W) (h0 : I [] w) (a₁ : Nat → Act)
    (hassign : ∀ (l x : Nat) (W : World) (K : Act → World → Prop), K (a₁ x) W →
      assign.wpIn (Fence.wide.inRound l) (n - 1 - 1) Tryz.prog (Exit.then K (fun _ _ _ => False)) { tmps := a.tmps.setIfInBounds p (.int .i64 (x : Nat)), defers := [] } W)
    (hbody : ∀ (l : Nat) (pre : List Nat) (x : Nat) (W : World), x < 24 → s.testBit x = true → pre.length < 24 → I pre W →
      body.wpIn (Fence.wide.inRound l) (n - 1 - 1) Tryz.prog (eachPostX I Ix (pre ++ [x]) W) (a₁ x) W)
    (hdone : ∀ (D : Nat) (W : World), w.heap.size ≤ D → I (bitsN s) W → W.heap[D]? = some (.deferred (some [])) →
      Q .normal { a with defers := { target := .collected D, args := #[] } :: a.defers } W)
    (hret : ∀ (D : Nat) (W : World), w.heap.size ≤ D → Ix W → W.heap[D]? = some (.deferred (some [])) →
      Q .ret { a with defers := { target := .collected D, args := #[] } :: a.defers } W) :
    (Code.rangeFunc g #[p] assign body).wpIn Fence.wide n Tryz.prog Q a w := by
  refine wpIn_rangeFunc ?_
  intro fn hfn
  -- the statement's own block of deferred calls, and the loop's record behind it
  generalize hD : w.heap.size = D at *
  let lp : LoopState → Loop := fun st => { state := st, pending := none, fn := fn, tmps := a.tmps, params := #[p], assign := assign, body := body, defers := D }
  have elp : ∀ st, lp st = { state := st, pending := none, fn := fn, tmps := a.tmps, params := #[p], assign := assign, body := body, defers := D } := fun _ => rfl
  let V := (w.alloc (.deferred (some []))).alloc (.loop (lp .ready))
  have vL : V.heap[D + 1]? = some (.loop (lp .ready)) := by
    have h := World.alloc_heap_new (w.alloc (.deferred (some []))) (.loop (lp .ready))
    rwa [World.size_alloc, hD] at h
  have vD : V.heap[D]? = some (.deferred (some [])) := by
    have h := World.alloc_heap_new w (.deferred (some []))
    rw [hD] at h
    exact (Below.heap_alloc _ _ _ (by simp; omega)).trans h
  have vI : I [] V := hI.alloc _ (hI.alloc _ h0)
  have henter : (Instr.enterLoop fn a.tmps #[p] assign body Fence.wide.round).run Tryz.prog w = .ok (D + 1, [{ target := .collected D, args := #[] }]) V := by
    have h := run_enterLoop_outer (P := Tryz.prog) (w := w) fn a.tmps #[p] assign body
    rw [hD] at h
    exact h
  have eg := enters_of (P := Tryz.prog) Tryz.func68 (by kernel_rfl) rfl
  refine ⟨D + 1, [{ target := .collected D, args := #[] }], V, { target := .fn (.func 68) #[], args := #[.int .u64 s, .func (.yield (D + 1)) #[] #[]] }, V, 68,
    #[.int .u64 s, .func (.yield (D + 1)) #[] #[]], V, henter, ?_, fun _ _ => trivial, ?_, fun h => (by simp [Fence.wide] at h), ?_⟩
  · simp only [resolve, hg]
    simp [go_sem]
  · simp [invoke, go_sem, eg _ _]
  -- what holds between two rounds: the caller's invariant, the record ready, the block as it was laid
  refine (each_inX (n - 1) s hs B (D + 1) (fun pre W => I pre W ∧ W.heap[D + 1]? = some (.loop (lp .ready)) ∧ W.heap[D]? = some (.deferred (some [])))
    (fun W => Ix W ∧ W.heap[D + 1]? = some (.loop { lp .done with pending := some .ret }) ∧ W.heap[D]? = some (.deferred (some [])))
    (fun pre W h => hT pre W h.1) ?round V (And.intro vI (And.intro vL vD))).mono ?done
  case round =>
    rintro pre x W ⟨hi, hl, hk⟩ hx hbt hpl
    have hin : D + 1 < W.heap.size := (Array.getElem?_eq_some_iff.1 hl).1
    have hy := run_yield (P := Tryz.prog) (args := #[Value.int .i64 (x : Nat)]) hl (by rw [elp]; rfl)
    have hy2 : (Instr.yield (D + 1) #[Value.int .i64 (x : Nat)]).run Tryz.prog W = .ok (.round (D + 1) fn (a.tmps.setIfInBounds p (.int .i64 (x : Nat))) assign body) W := by
      rw [hy, elp]; simp
    refine ⟨fn, _, assign, body, hy2, roundIn_of_wpIn hfn ?_⟩
    refine hassign (D + 1) x W _ ⟨_, run_beginRound hl (by rw [elp]), ?_⟩
    -- the record is busy: the body
    obtain ⟨U, hU⟩ : ∃ U, W.putObj (D + 1) (.loop { lp .ready with state := .busy }) = U := ⟨_, rfl⟩
    have uI : I pre U := by rw [← hU]; exact hI.putObj _ hi (by omega) hl rfl
    have uL : U.heap[D + 1]? = some (.loop { lp .ready with state := .busy }) := by rw [← hU]; exact World.putObj_heap_same hin
    have uD : U.heap[D]? = some (.deferred (some [])) := by rw [← hU]; exact (World.putObj_heap_other (by omega)).trans hk
    rw [hU]
    refine wpIn_mono (hbody _ pre x U hx hbt hpl uI) ?_
    rintro e a3 W3 (⟨rfl, hkeep, hi3⟩ | ⟨rfl, hkeep, hi3⟩)
    rotate_left
    · have l3 := hkeep.same _ _ uL rfl
      have d3 := hkeep.same _ _ uD rfl
      have hend := run_endRound (P := Tryz.prog) (some .ret) l3
      have hin3 : D + 1 < W3.heap.size := (Array.getElem?_eq_some_iff.1 l3).1
      refine ⟨_, _, hend, .inr ⟨rfl, hIx.putObj (s := []) _ hi3 (by omega) l3 rfl, ?_, (World.putObj_heap_other (by omega)).trans d3⟩⟩
      exact World.putObj_heap_same hin3
    have l3 := hkeep.same _ _ uL rfl
    have d3 := hkeep.same _ _ uD rfl
    have hend := run_endRound (P := Tryz.prog) none l3
    have hin3 : D + 1 < W3.heap.size := (Array.getElem?_eq_some_iff.1 l3).1
    refine ⟨_, _, hend, .inl ⟨rfl, hI.putObj _ hi3 (by omega) l3 rfl, ?_, (World.putObj_heap_other (by omega)).trans d3⟩⟩
    exact World.putObj_heap_same hin3
  case done =>
    rintro e W2 ⟨⟨v, rfl⟩, ⟨hi, hl, hk⟩ | ⟨hi, hl, hk⟩⟩
    rotate_left
    · have hend := run_endLoop (P := Tryz.prog) hl (by simp)
      exact ⟨some .ret, _, hend, wpIn_ret (hret D _ (by omega) (hIx.putObj (s := []) _ hi (by omega) hl rfl) ((World.putObj_heap_other (by omega)).trans hk))⟩
    have hend := run_endLoop (P := Tryz.prog) hl (by rw [elp]; simp)
    exact ⟨none, _, hend, hdone D _ (by omega) (hI.putObj _ hi (by omega) hl rfl) ((World.putObj_heap_other (by omega)).trans hk)⟩
end Go.Proofs.YtaacofbmbpkeoaaGreatDoor

namespace Go.Proofs.YtaacofbmbpkeoaaGreatDoor
open Go.RowKit
set_option maxRecDepth 1000000
/-- What the order of an element is; 0 for no element. -/
def OrdX (l : List Int) (x : Int) (m : Nat) : Prop := (isE l x = true → IsOrd l x m) ∧ (isE l x = false → m = 0)
theorem ordX_ex (l : List Int) (x : Int) : ∃ m, OrdX l x m := by
  cases hx : isE l x with
  | false => exact ⟨0, (fun h => by rw [hx] at h; cases h), fun _ => rfl⟩
  | true =>
    obtain ⟨m, hm⟩ := isOrd_ex (ords_grp (isE_true hx).1) x
    exact ⟨m, fun _ => hm, (fun h => by rw [hx] at h; cases h)⟩
theorem sOrdX (w : World) (a : Option Addr) (l : List Int) (n cap : Nat) (x : Int) (m : Nat) (hn : n = l.length) (hm : n ≤ 9223372036854775807) (hi : Ints w a l) (ho : OrdX l x m) :
    Calls Tryz.prog 70 #[.agg #[.slice a n cap], .int .i64 x] w fun e w' => e = .returned (.int .i64 m) ∧ Below w.heap.size w w' := by
  cases hx : isE l x with
  | false => rw [ho.2 hx]; exact sOrd_no w a l n cap x hn hm hi hx
  | true => exact sOrd_yes w a l n cap x m hn hm hi hx (ho.1 hx)
theorem set_trip {w : World} {b : Nat} {x y z x' y' z' : Value} {T : TypeId} (h : w.heap[b]? = some (.cells #[x, y, z] T (0, 0))) :
    (((w.setCell ⟨b, 0, none⟩ x').setCell ⟨b, 1, none⟩ y').setCell ⟨b, 2, none⟩ z').heap[b]? = some (.cells #[x', y', z'] T (0, 0)) := by
  rw [heap_setCell_same _ b 2 _ _ z' (heap_setCell_same _ b 1 _ _ y' (heap_setCell_same w b 0 _ _ x' h))]; rfl
theorem step_mod (u j p : Int) : (u * j % p + u) % p = u * (j + 1) % p := by
  rw [Int.emod_add_emod, Int.mul_add, Int.mul_one]
theorem triNe (a b c : Int) (w : World) : (binOp .neq 41 (tV a b c) (tV 0 0 0)).run Tryz.prog w = .ok (.bool (!(a == 0 && (b == 0 && c == 0)))) w := by
  obtain ⟨i0, hi, _, _, _⟩ := info_parts intInfo
  rw [run_neq_struct, show (10000 : Nat) = 9999 + 1 from rfl, run_equalIn_array w 9999 _ _ triArr hi]
  rw [show Tryz.prog.cellsOf 3 = 1 by kernel_rfl]
  simp [List.range_succ, Op.eqItems, part, isAgg, run_underlying Tryz.underlying3, run_equalIn_int w 9998 3 .i64 .i64 _ _ Tryz.underlying3]
  by_cases ha : a = 0 <;> by_cases hb : b = 0 <;> by_cases hc : c = 0 <;> simp [ha, hb, hc]
set_option maxHeartbeats 1000000 in
theorem iOrd (w : World) (a : Option Addr) (l : List Int) (n cap : Nat) (x : Int) (m : Nat) (hn : n = l.length) (hm : n ≤ 9223372036854775807) (hi : Ints w a l) (ho : OrdX l x m) :
    Calls Tryz.prog 69 #[.agg #[.slice a n cap], .int .i64 x] w fun e w' => e = .returned (.int .i64 m) ∧ Below w.heap.size w w' := by
  have HI := Lib.hid (ints_alloc hi (.cells #[.slice a n cap] 26))
  have HN := Lib.hid hn
  have C1 := newC w (.slice a n cap) 26 (n := w.heap.size) rfl
  have HB := Lib.hid (Joins.below_alloc1 w (.cells #[.slice a n cap] 26))
  have T0 := Lib.hid (Below.refl (w.alloc (.cells #[.slice a n cap] 26)).heap.size (w.alloc (.cells #[.slice a n cap] 26)))
  clear hi hn
  cases hx : isE l x with
  | false =>
    have HX := Lib.hid hx
    have hm0 := ho.2 hx
    subst hm0
    clear hx ho
    go_enter Tryz.func69, Tryz.ntmps69
    go_wp2_with (first
      | (go_at_call 93; refine (iIn _ _ _ _ _ x HN.out hm (HI.out.below rfl T0.out)).mono ?_; unfold InPost; rw [HX.out]; rintro e w1 ⟨p, q, r, u, v, s, rfl, hv1, hb1⟩; clear hv1; have T1 := Lib.hid (T0.out.trans (hb1.mono T0.out.size)); have T1a := Lib.hid (T1.out.alloc T1.out.size (.cells #[.int .i64 p, .int .i64 q, .int .i64 r] 41)); have T1b := Lib.hid (T1a.out.alloc T1a.out.size (.cells #[.int .i64 u, .int .i64 v, .int .i64 s] 41)); have N1 := Lib.hid (keepH (Joins.below_alloc1 _ (.cells #[.int .i64 u, .int .i64 v, .int .i64 s] 41)) (by simp) (heap_alloc_new w1 (.cells #[.int .i64 p, .int .i64 q, .int .i64 r] 41))); have M1 : Hid (((w1.alloc (.cells #[.int .i64 p, .int .i64 q, .int .i64 r] 41)).alloc (.cells #[.int .i64 u, .int .i64 v, .int .i64 s] 41)).heap[w1.heap.size + 1]? = some (.cells #[.int .i64 u, .int .i64 v, .int .i64 s] 41 (0, 0))) := Lib.hid (by simpa using heap_alloc_new (w1.alloc (.cells #[.int .i64 p, .int .i64 q, .int .i64 r] 41)) (.cells #[.int .i64 u, .int .i64 v, .int .i64 s] 41)); have c1 := keepC T1.out (by simp <;> omega) C1; have c1b := keepC T1b.out (by simp <;> omega) C1))
    go_ret
    exact ⟨rfl, HB.out.trans (T1b.out.mono (by simp <;> omega))⟩
  | true =>
    have HX := Lib.hid hx
    have HO := Lib.hid (ho.1 hx)
    have hm24 := HO.out.2.1
    have BX := isE_true hx
    have HT := Lib.hid (tri_grp BX.1)
    have HF2 := Lib.hid (fun k => mul_tri (grpB_true BX.1).1 x k (by have := HT.out.p1; omega))
    clear hx BX ho
    go_enter Tryz.func69, Tryz.ntmps69
    go_upto_region 5 with (first
      | (go_at_call 93; refine (iIn _ _ _ _ _ x HN.out hm (HI.out.below rfl T0.out)).mono ?_; unfold InPost; rw [HX.out]; rintro e w1 ⟨p, q, r, u, v, s, rfl, hv1, hb1⟩; obtain ⟨e1, e2, e3, e4, e5, e6⟩ := hv1 rfl; have HV1 := Lib.hid (And.intro e1 (And.intro e2 (And.intro e3 (And.intro e4 (And.intro e5 e6))))); clear e1 e2 e3 e4 e5 e6; clear hv1; have T1 := Lib.hid (T0.out.trans (hb1.mono T0.out.size)); have T1a := Lib.hid (T1.out.alloc T1.out.size (.cells #[.int .i64 p, .int .i64 q, .int .i64 r] 41)); have T1b := Lib.hid (T1a.out.alloc T1a.out.size (.cells #[.int .i64 u, .int .i64 v, .int .i64 s] 41)); have N1 := Lib.hid (keepH (Joins.below_alloc1 _ (.cells #[.int .i64 u, .int .i64 v, .int .i64 s] 41)) (by simp) (heap_alloc_new w1 (.cells #[.int .i64 p, .int .i64 q, .int .i64 r] 41))); have M1 : Hid (((w1.alloc (.cells #[.int .i64 p, .int .i64 q, .int .i64 r] 41)).alloc (.cells #[.int .i64 u, .int .i64 v, .int .i64 s] 41)).heap[w1.heap.size + 1]? = some (.cells #[.int .i64 u, .int .i64 v, .int .i64 s] 41 (0, 0))) := Lib.hid (by simpa using heap_alloc_new (w1.alloc (.cells #[.int .i64 p, .int .i64 q, .int .i64 r] 41)) (.cells #[.int .i64 u, .int .i64 v, .int .i64 s] 41)); have c1 := keepC T1.out (by simp <;> omega) C1; have c1b := keepC T1b.out (by simp <;> omega) C1))
    rw [← HV1.out.1, ← HV1.out.2.1, ← HV1.out.2.2.1] at HT
    have BU := Lib.hid (show (0 ≤ u ∧ u < p) ∧ (0 ≤ v ∧ v < q) ∧ (0 ≤ s ∧ s < r) by
      obtain ⟨e1, e2, e3, e4, e5, e6⟩ := HV1.out
      rw [e4, e5, e6, ← e1, ← e2, ← e3]
      exact ⟨emod_b HT.out.p1, emod_b HT.out.q1, emod_b HT.out.r1⟩)
    have HR : Hid (∀ k : Int, mulN l x k = u * k % p + p * (v * k % q) + p * q * (s * k % r)) := Lib.hid (fun k => by
      obtain ⟨e1, e2, e3, e4, e5, e6⟩ := HV1.out
      rw [HF2.out k, e4, e5, e6, e1, e2, e3])
    have KV := Lib.hid (Below.refl ((w1.alloc (.cells #[.int .i64 p, .int .i64 q, .int .i64 r] 41)).alloc (.cells #[.int .i64 u, .int .i64 v, .int .i64 s] 41)).heap.size ((w1.alloc (.cells #[.int .i64 p, .int .i64 q, .int .i64 r] 41)).alloc (.cells #[.int .i64 u, .int .i64 v, .int .i64 s] 41)))
    have TV := Lib.hid T1b.out
    generalize hV : ((w1.alloc (.cells #[.int .i64 p, .int .i64 q, .int .i64 r] 41)).alloc (.cells #[.int .i64 u, .int .i64 v, .int .i64 s] 41)) = V at *
    have HVS : Hid (V.heap.size = w1.heap.size + 1 + 1) := Lib.hid (by rw [← hV]; simp)
    clear hV
    obtain ⟨ta0, ta1, ta2, _, _, _⟩ := trip_cell N1.out
    obtain ⟨tb0, tb1, tb2, tf0, tf1, tf2⟩ := trip_cell M1.out
    go_wp2_with fail
    go_loopw [8, 9] (fun i pp wr => ∃ (j b : Nat), 1 ≤ j ∧ j ≤ m ∧ i = .int .i64 j ∧ pp = .pointer (some ⟨b, 0, none⟩) ∧ Hid (wr.heap[b]? = some (.cells #[.int .i64 (u * j % p), .int .i64 (v * j % q), .int .i64 (s * j % r)] 41 (0, 0))) ∧ Below V.heap.size V wr) (fun i _ _ => m - (intOf i).toNat)
    case atStart => exact ⟨1, V.heap.size, Nat.le_refl _, HO.out.1, rfl, rfl, Lib.hid (by
      rw [show ((1 : Nat) : Int) = 1 from rfl, Int.mul_one, Int.mul_one, Int.mul_one, Int.emod_eq_of_lt BU.out.1.1 BU.out.1.2, Int.emod_eq_of_lt BU.out.2.1.1 BU.out.2.1.2, Int.emod_eq_of_lt BU.out.2.2.1 BU.out.2.2.2]
      exact heap_alloc_new V _), (Below.refl _ _).alloc (Nat.le_refl _) _⟩
    case round =>
      obtain ⟨j, b, hj1, hj, rfl, rfl, HC, hbel⟩ := hrel
      obtain ⟨b0, b1, b2, bf0, bf1, bf2⟩ := trip_cell HC.out
      have HRJ := HR.out j
      obtain ⟨x1, x2⟩ := emod_b (a := u * j) HT.out.p1
      obtain ⟨y1, y2⟩ := emod_b (a := v * j) HT.out.q1
      obtain ⟨z1, z2⟩ := emod_b (a := s * j) HT.out.r1
      have SA := step_mod u j p
      have SB := step_mod v j q
      have SC := step_mod s j r
      rw [show ((j : Int) + 1) = ((j + 1 : Nat) : Int) by omega] at SA SB SC
      generalize u * (j : Int) % p = A at *
      generalize v * (j : Int) % q = B at *
      generalize s * (j : Int) % r = C at *
      have S3 := Lib.hid (And.intro SA (And.intro SB SC))
      have hbw : b < wr.heap.size := (Array.getElem?_eq_some_iff.1 HC.out).1
      clear SA SB SC
      by_cases hlt : j < m
      · have hnz : ¬ (A = 0 ∧ B = 0 ∧ C = 0) := fun ⟨ea, eb, ec⟩ => by
          rw [ea, eb, ec] at HRJ
          exact HO.out.2.2.2 j hj1 hlt (by rw [HRJ]; simp)
        clear HRJ
        have HNE : ∀ W, (binOp .neq 41 (tV A B C) (tV 0 0 0)).run Tryz.prog W = .ok (.bool true) W := fun W => by
          rw [triNe]
          have : (!(A == 0 && (B == 0 && C == 0))) = true := by
            by_cases ha : A = 0 <;> by_cases hb : B = 0 <;> by_cases hc : C = 0 <;> simp [ha, hb, hc]
            exact hnz ⟨ha, hb, hc⟩
          rw [this]
        have HEG := Tryz.eqGuardType41
        clear hnz
        have CH := Lib.hid (hbel.alloc hbel.size (.cells #[.int .i64 A, .int .i64 B, .int .i64 C] 41))
        obtain ⟨qa0, qa1, qa2, qaf0, qaf1, qaf2⟩ := trip_cell (keepH CH.out (by rw [HVS.out]; omega) N1.out)
        obtain ⟨qb0, qb1, qb2, qbf0, qbf1, qbf2⟩ := trip_cell (keepH CH.out (by rw [HVS.out]; omega) M1.out)
        have NB := Lib.hid (heap_alloc_new wr (.cells #[.int .i64 A, .int .i64 B, .int .i64 C] 41))
        obtain ⟨k0, k1, k2, kf0, kf1, kf2⟩ := trip_cell NB.out
        go_wp2_with (go_at_call 94; refine (iAdd _ _ _ _ _ _ _ _ _ _ HT.out ⟨x1, x2⟩ ⟨y1, y2⟩ ⟨z1, z2⟩ BU.out.1 BU.out.2.1 BU.out.2.2).mono ?_; rintro e w3 ⟨rfl, hb3⟩; obtain ⟨l0, l1, l2, lf0, lf1, lf2⟩ := trip_cell (keepH hb3 (by simp) NB.out); have H3 := Lib.hid (keepH hb3 (by simp) NB.out))
        go_roundw
        case rel => exact ⟨j + 1, wr.heap.size, by omega, by omega, by go_num, rfl, Lib.hid (by
          rw [← S3.out.1, ← S3.out.2.1, ← S3.out.2.2]; exact set_trip H3.out), below_set3 (CH.out.trans (hb3.mono CH.out.size)) hbel.size⟩
        case measure => simp [intOf]; omega
      · obtain rfl : j = m := by omega
        have hz : A = 0 ∧ B = 0 ∧ C = 0 := by
          rw [HO.out.2.2.1] at HRJ
          have g1 := Int.mul_nonneg (show 0 ≤ p by have := HT.out.p1; omega) y1
          have g2 := Int.mul_nonneg (show 0 ≤ p * q by have := HT.out.pq1; omega) z1
          have hA : A = 0 := by omega
          have hpB : p * B = 0 := by omega
          have hqC : p * q * C = 0 := by omega
          refine ⟨hA, ?_, ?_⟩
          · rcases Int.mul_eq_zero.1 hpB with h | h
            · have := HT.out.p1; omega
            · exact h
          · rcases Int.mul_eq_zero.1 hqC with h | h
            · have := HT.out.pq1; omega
            · exact h
        have HNE : ∀ W, (binOp .neq 41 (tV A B C) (tV 0 0 0)).run Tryz.prog W = .ok (.bool false) W := fun W => by
          rw [triNe, hz.1, hz.2.1, hz.2.2]; rfl
        have HEG := Tryz.eqGuardType41
        clear hz HRJ
        go_wp2
        go_ret
        exact ⟨rfl, HB.out.trans ((TV.out.trans (hbel.mono TV.out.size)).mono (by simp <;> omega))⟩
end Go.Proofs.YtaacofbmbpkeoaaGreatDoor
