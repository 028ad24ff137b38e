/- A range over the program's iterator of a set, within a round of another such range: the outer statement with its record told to the body; the inner one. -/
import Derived.Test.YthlpjiibjlaebaaDoorMGAI
import Derived.RangeFuncNested
namespace Go.Proofs.YthlpjiibjlaebaaDoor
open Go.RowKit Go.Shelf
set_option maxRecDepth 1000000
set_option maxHeartbeats 1000000 in
theorem each_loopH {n : Nat} {g : Operand} {p : Tmp} {assign body : Code} {Q : Exit → Act → World → Prop} {a : Act} {w : World}
    (s : Nat) (hs : s < 2 ^ 24) (hg : a.eval g = .func (.func 61) #[.int .u64 s] #[]) (B : Nat)
    (I : List Nat → World → Prop) (hI : OwnFrom w.heap.size I) (hT : ∀ pre W, I pre W → TabZ B W) (h0 : I [] w) (a₁ : Nat → Act)
    (hassign : ∀ (l x : Nat) (W : World) (K : Act → World → Prop), K (a₁ x) W →
      assign.wpIn (Fence.wide.inRound l) (n - 1 - 1) Tryd.prog (Exit.then K (fun _ _ _ => False)) { tmps := a.tmps.setIfInBounds p (.int .i64 (x : Nat)), defers := [] } W)
    (hbody : ∀ (l : Nat) (pre : List Nat) (x : Nat) (W : World), w.heap.size ≤ l → (∃ r, W.heap[l]? = some (.loop r)) → x < 24 → s.testBit x = true → pre.length < 24 → I pre W →
      body.wpIn (Fence.wide.inRound l) (n - 1 - 1) Tryd.prog (eachPost I (pre ++ [x]) W) (a₁ x) W)
    (hdone : ∀ (D : Nat) (W : World), w.heap.size ≤ D → I (bitsN s) W → W.heap[D]? = some (.deferred (some [])) →
      Q .normal { a with defers := { target := .collected D, args := #[] } :: a.defers } W) :
    (Code.rangeFunc g #[p] assign body).wpIn Fence.wide n Tryd.prog Q a w := by
  refine wpIn_rangeFunc ?_
  intro fn hfn
  -- the statement's own block of deferred calls, and the loop's record behind it
  generalize hD : w.heap.size = D at *
  let lp : LoopState → Loop := fun st => { state := st, pending := none, fn := fn, tmps := a.tmps, params := #[p], assign := assign, body := body, defers := D }
  have elp : ∀ st, lp st = { state := st, pending := none, fn := fn, tmps := a.tmps, params := #[p], assign := assign, body := body, defers := D } := fun _ => rfl
  let V := (w.alloc (.deferred (some []))).alloc (.loop (lp .ready))
  have vL : V.heap[D + 1]? = some (.loop (lp .ready)) := by
    have h := World.alloc_heap_new (w.alloc (.deferred (some []))) (.loop (lp .ready))
    rwa [World.size_alloc, hD] at h
  have vD : V.heap[D]? = some (.deferred (some [])) := by
    have h := World.alloc_heap_new w (.deferred (some []))
    rw [hD] at h
    exact (Below.heap_alloc _ _ _ (by simp; omega)).trans h
  have vI : I [] V := hI.alloc _ (hI.alloc _ h0)
  have henter : (Instr.enterLoop fn a.tmps #[p] assign body Fence.wide.round).run Tryd.prog w = .ok (D + 1, [{ target := .collected D, args := #[] }]) V := by
    have h := run_enterLoop_outer (P := Tryd.prog) (w := w) fn a.tmps #[p] assign body
    rw [hD] at h
    exact h
  have eg := enters_of (P := Tryd.prog) Tryd.func61 (by kernel_rfl) rfl
  refine ⟨D + 1, [{ target := .collected D, args := #[] }], V, { target := .fn (.func 61) #[], args := #[.int .u64 s, .func (.yield (D + 1)) #[] #[]] }, V, 61,
    #[.int .u64 s, .func (.yield (D + 1)) #[] #[]], V, henter, ?_, fun _ _ => trivial, ?_, fun h => (by simp [Fence.wide] at h), ?_⟩
  · simp only [resolve, hg]
    simp [go_sem]
  · simp [invoke, go_sem, eg _ _]
  -- what holds between two rounds: the caller's invariant, the record ready, the block as it was laid
  refine (each_in (n - 1) s hs B (D + 1) (fun pre W => I pre W ∧ W.heap[D + 1]? = some (.loop (lp .ready)) ∧ W.heap[D]? = some (.deferred (some [])))
    (fun pre W h => hT pre W h.1) ?round V (And.intro vI (And.intro vL vD))).mono ?done
  case round =>
    rintro pre x W ⟨hi, hl, hk⟩ hx hbt hpl
    have hin : D + 1 < W.heap.size := (Array.getElem?_eq_some_iff.1 hl).1
    have hy := run_yield (P := Tryd.prog) (args := #[Value.int .i64 (x : Nat)]) hl (by rw [elp]; rfl)
    have hy2 : (Instr.yield (D + 1) #[Value.int .i64 (x : Nat)]).run Tryd.prog W = .ok (.round (D + 1) fn (a.tmps.setIfInBounds p (.int .i64 (x : Nat))) assign body) W := by
      rw [hy, elp]; simp
    refine ⟨fn, _, assign, body, hy2, roundIn_of_wpIn hfn ?_⟩
    refine hassign (D + 1) x W _ ⟨_, run_beginRound hl (by rw [elp]), ?_⟩
    -- the record is busy: the body
    obtain ⟨U, hU⟩ : ∃ U, W.putObj (D + 1) (.loop { lp .ready with state := .busy }) = U := ⟨_, rfl⟩
    have uI : I pre U := by rw [← hU]; exact hI.putObj _ hi (by omega) hl rfl
    have uL : U.heap[D + 1]? = some (.loop { lp .ready with state := .busy }) := by rw [← hU]; exact World.putObj_heap_same hin
    have uD : U.heap[D]? = some (.deferred (some [])) := by rw [← hU]; exact (World.putObj_heap_other (by omega)).trans hk
    rw [hU]
    refine wpIn_mono (hbody _ pre x U (by omega) ⟨_, uL⟩ hx hbt hpl uI) ?_
    rintro e a3 W3 ⟨rfl, hkeep, hi3⟩
    have l3 := hkeep.same _ _ uL rfl
    have d3 := hkeep.same _ _ uD rfl
    have hend := run_endRound (P := Tryd.prog) none l3
    have hin3 : D + 1 < W3.heap.size := (Array.getElem?_eq_some_iff.1 l3).1
    refine ⟨_, _, hend, rfl, hI.putObj _ hi3 (by omega) l3 rfl, ?_, (World.putObj_heap_other (by omega)).trans d3⟩
    exact World.putObj_heap_same hin3
  case done =>
    rintro e W2 ⟨⟨v, rfl⟩, hi, hl, hk⟩
    have hend := run_endLoop (P := Tryd.prog) hl (by rw [elp]; simp)
    exact ⟨none, _, hend, hdone D _ (by omega) (hI.putObj _ hi (by omega) hl rfl) ((World.putObj_heap_other (by omega)).trans hk)⟩
theorem keepsO_alloc (w : World) (o : Obj) : KeepsOthers w (w.alloc o) := ⟨by simp, fun _ _ ho _ => (Below.heap_alloc _ _ _ (Array.getElem?_eq_some_iff.1 ho).1).trans ho⟩
theorem keepsO_put {w W : World} {k : Nat} {o : Obj} (h : KeepsOthers w W) (hk : w.heap.size ≤ k) : KeepsOthers w (W.putObj k o) :=
  ⟨by simpa using h.size, fun i _ ho hc => (World.putObj_heap_other (by have := (Array.getElem?_eq_some_iff.1 ho).1; omega)).trans (h.same i _ ho hc)⟩
set_option maxHeartbeats 1000000 in
theorem each_inner {n l₀ : Nat} {g : Operand} {p : Tmp} {assign body : Code} {Q : Exit → Act → World → Prop} {a : Act} {w : World}
    (s : Nat) (hs : s < 2 ^ 24) (hl0 : ∃ r, w.heap[l₀]? = some (.loop r)) (hg : a.eval g = .func (.func 61) #[.int .u64 s] #[]) (B : Nat)
    (I : List Nat → World → Prop) (hI : OwnFrom w.heap.size I) (hT : ∀ pre W, I pre W → TabZ B W) (h0 : I [] w) (a₁ : Nat → Act)
    (hassign : ∀ (l x : Nat) (W : World) (K : Act → World → Prop), K (a₁ x) W →
      assign.wpIn (Fence.wide.inRound l) (n - 1 - 1) Tryd.prog (Exit.then K (fun _ _ _ => False)) { tmps := a.tmps.setIfInBounds p (.int .i64 (x : Nat)), defers := [] } W)
    (hbody : ∀ (l : Nat) (pre : List Nat) (x : Nat) (W : World), x < 24 → s.testBit x = true → pre.length < 24 → I pre W →
      body.wpIn (Fence.wide.inRound l) (n - 1 - 1) Tryd.prog (eachPost I (pre ++ [x]) W) (a₁ x) W)
    (hdone : ∀ (W : World), KeepsOthers w W → I (bitsN s) W → Q .normal a W) :
    (Code.rangeFunc g #[p] assign body).wpIn (Fence.wide.inRound l₀) n Tryd.prog Q a w := by
  refine wpIn_rangeFunc ?_
  intro fn hfn
  obtain ⟨r0, hr0⟩ := hl0
  generalize hD : w.heap.size = D at *
  let lp : LoopState → Loop := fun st => { state := st, pending := none, fn := fn, tmps := a.tmps, params := #[p], assign := assign, body := body, defers := r0.defers }
  have elp : ∀ st, lp st = { state := st, pending := none, fn := fn, tmps := a.tmps, params := #[p], assign := assign, body := body, defers := r0.defers } := fun _ => rfl
  let V := w.alloc (.loop (lp .ready))
  have vL : V.heap[D]? = some (.loop (lp .ready)) := by
    have h := World.alloc_heap_new w (.loop (lp .ready))
    rwa [hD] at h
  have vI : I [] V := hI.alloc _ h0
  have vK : KeepsOthers w V := keepsO_alloc w _
  have henter : (Instr.enterLoop fn a.tmps #[p] assign body (Fence.wide.inRound l₀).round).run Tryd.prog w = .ok (D, []) V := by
    have h := run_enterLoop_inner (P := Tryd.prog) hr0 fn a.tmps #[p] assign body
    rw [hD] at h
    exact h
  have eg := enters_of (P := Tryd.prog) Tryd.func61 (by kernel_rfl) rfl
  refine ⟨D, [], V, { target := .fn (.func 61) #[], args := #[.int .u64 s, .func (.yield D) #[] #[]] }, V, 61,
    #[.int .u64 s, .func (.yield D) #[] #[]], V, henter, ?_, fun _ _ => trivial, ?_, fun h => (by simp [Fence.wide] at h), CallsIn.inRound l₀ ?_⟩
  · simp only [resolve, hg]
    simp [go_sem]
  · simp [invoke, go_sem, eg _ _]
  refine (each_in (n - 1) s hs B D (fun pre W => I pre W ∧ W.heap[D]? = some (.loop (lp .ready)) ∧ KeepsOthers w W)
    (fun pre W h => hT pre W h.1) ?round V (And.intro vI (And.intro vL vK))).mono ?done
  case round =>
    rintro pre x W ⟨hi, hl, hk⟩ hx hbt hpl
    have hin : D < W.heap.size := (Array.getElem?_eq_some_iff.1 hl).1
    have hy := run_yield (P := Tryd.prog) (args := #[Value.int .i64 (x : Nat)]) hl (by rw [elp]; rfl)
    have hy2 : (Instr.yield D #[Value.int .i64 (x : Nat)]).run Tryd.prog W = .ok (.round D fn (a.tmps.setIfInBounds p (.int .i64 (x : Nat))) assign body) W := by
      rw [hy, elp]; simp
    refine ⟨fn, _, assign, body, hy2, roundIn_of_wpIn hfn ?_⟩
    refine hassign D x W _ ⟨_, run_beginRound hl (by rw [elp]), ?_⟩
    obtain ⟨U, hU⟩ : ∃ U, W.putObj D (.loop { lp .ready with state := .busy }) = U := ⟨_, rfl⟩
    have uI : I pre U := by rw [← hU]; exact hI.putObj _ hi (by omega) hl rfl
    have uL : U.heap[D]? = some (.loop { lp .ready with state := .busy }) := by rw [← hU]; exact World.putObj_heap_same hin
    have uK : KeepsOthers w U := by rw [← hU]; exact keepsO_put hk (by omega)
    rw [hU]
    refine wpIn_mono (hbody _ pre x U hx hbt hpl uI) ?_
    rintro e a3 W3 ⟨rfl, hkeep, hi3⟩
    have l3 := hkeep.same _ _ uL rfl
    have hend := run_endRound (P := Tryd.prog) none l3
    have hin3 : D < W3.heap.size := (Array.getElem?_eq_some_iff.1 l3).1
    refine ⟨_, _, hend, rfl, hI.putObj _ hi3 (by omega) l3 rfl, ?_, keepsO_put (uK.trans hkeep) (by omega)⟩
    exact World.putObj_heap_same hin3
  case done =>
    rintro e W2 ⟨⟨v, rfl⟩, hi, hl, hk⟩
    have hend := run_endLoop (P := Tryd.prog) hl (by rw [elp]; simp)
    exact ⟨none, _, hend, hdone _ (keepsO_put hk (by omega)) (hI.putObj _ hi (by omega) hl rfl)⟩
end Go.Proofs.YthlpjiibjlaebaaDoor
