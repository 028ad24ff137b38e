/- A range over the program's iterator of a set, taken as a method value (the receiver bound): what the caller owes for the statement: an invariant over the elements that have come, and its body in one round. -/
import Derived.Test.YtaacofbmbpkeoaaDoorEach
namespace Go.Proofs.YtaacofbmbpkeoaaDoor
open Go.RowKit Go.Shelf
set_option maxRecDepth 1000000
/-- How the body of a round ends: it goes on; what is no cells lies as it lay; the invariant holds of one element more. -/
def eachPost (I : List Nat → World → Prop) (xs : List Nat) (W : World) : Exit → Act → World → Prop := fun e _ W' => e = .normal ∧ KeepsOthers W W' ∧ I xs W'
set_option maxHeartbeats 1000000 in
theorem each_loopB {n : Nat} {g : Operand} {p : Tmp} {assign body : Code} {Q : Exit → Act → World → Prop} {a : Act} {w : World}
    (s : Nat) (hs : s < 2 ^ 24) (hg : a.eval g = .func (.func 43) #[.int .u64 s] #[]) (B : Nat)
    (I : List Nat → World → Prop) (hI : OwnFrom w.heap.size I) (hT : ∀ pre W, I pre W → TabZ B W) (h0 : I [] w) (a₁ : Nat → Act)
    (hassign : ∀ (l x : Nat) (W : World) (K : Act → World → Prop), K (a₁ x) W →
      assign.wpIn (Fence.wide.inRound l) (n - 1 - 1) Tryd.prog (Exit.then K (fun _ _ _ => False)) { tmps := a.tmps.setIfInBounds p (.int .i64 (x : Nat)), defers := [] } W)
    (hbody : ∀ (l : Nat) (pre : List Nat) (x : Nat) (W : World), x < 24 → s.testBit x = true → pre.length < 24 → I pre W →
      body.wpIn (Fence.wide.inRound l) (n - 1 - 1) Tryd.prog (eachPost I (pre ++ [x]) W) (a₁ x) W)
    (hdone : ∀ (D : Nat) (W : World), w.heap.size ≤ D → I (bitsN s) W → W.heap[D]? = some (.deferred (some [])) →
      Q .normal { a with defers := { target := .collected D, args := #[] } :: a.defers } W) :
    (Code.rangeFunc g #[p] assign body).wpIn Fence.wide n Tryd.prog Q a w := by
  refine wpIn_rangeFunc ?_
  intro fn hfn
  -- the statement's own block of deferred calls, and the loop's record behind it
  generalize hD : w.heap.size = D at *
  let lp : LoopState → Loop := fun st => { state := st, pending := none, fn := fn, tmps := a.tmps, params := #[p], assign := assign, body := body, defers := D }
  have elp : ∀ st, lp st = { state := st, pending := none, fn := fn, tmps := a.tmps, params := #[p], assign := assign, body := body, defers := D } := fun _ => rfl
  let V := (w.alloc (.deferred (some []))).alloc (.loop (lp .ready))
  have vL : V.heap[D + 1]? = some (.loop (lp .ready)) := by
    have h := World.alloc_heap_new (w.alloc (.deferred (some []))) (.loop (lp .ready))
    rwa [World.size_alloc, hD] at h
  have vD : V.heap[D]? = some (.deferred (some [])) := by
    have h := World.alloc_heap_new w (.deferred (some []))
    rw [hD] at h
    exact (Below.heap_alloc _ _ _ (by simp; omega)).trans h
  have vI : I [] V := hI.alloc _ (hI.alloc _ h0)
  have henter : (Instr.enterLoop fn a.tmps #[p] assign body Fence.wide.round).run Tryd.prog w = .ok (D + 1, [{ target := .collected D, args := #[] }]) V := by
    have h := run_enterLoop_outer (P := Tryd.prog) (w := w) fn a.tmps #[p] assign body
    rw [hD] at h
    exact h
  have eg := enters_of (P := Tryd.prog) Tryd.func43 (by kernel_rfl) rfl
  refine ⟨D + 1, [{ target := .collected D, args := #[] }], V, { target := .fn (.func 43) #[], args := #[.int .u64 s, .func (.yield (D + 1)) #[] #[]] }, V, 43,
    #[.int .u64 s, .func (.yield (D + 1)) #[] #[]], V, henter, ?_, fun _ _ => trivial, ?_, fun h => (by simp [Fence.wide] at h), ?_⟩
  · simp only [resolve, hg]
    simp [go_sem]
  · simp [invoke, go_sem, eg _ _]
  -- what holds between two rounds: the caller's invariant, the record ready, the block as it was laid
  refine (each_in (n - 1) s hs B (D + 1) (fun pre W => I pre W ∧ W.heap[D + 1]? = some (.loop (lp .ready)) ∧ W.heap[D]? = some (.deferred (some [])))
    (fun pre W h => hT pre W h.1) ?round V (And.intro vI (And.intro vL vD))).mono ?done
  case round =>
    rintro pre x W ⟨hi, hl, hk⟩ hx hbt hpl
    have hin : D + 1 < W.heap.size := (Array.getElem?_eq_some_iff.1 hl).1
    have hy := run_yield (P := Tryd.prog) (args := #[Value.int .i64 (x : Nat)]) hl (by rw [elp]; rfl)
    have hy2 : (Instr.yield (D + 1) #[Value.int .i64 (x : Nat)]).run Tryd.prog W = .ok (.round (D + 1) fn (a.tmps.setIfInBounds p (.int .i64 (x : Nat))) assign body) W := by
      rw [hy, elp]; simp
    refine ⟨fn, _, assign, body, hy2, roundIn_of_wpIn hfn ?_⟩
    refine hassign (D + 1) x W _ ⟨_, run_beginRound hl (by rw [elp]), ?_⟩
    -- the record is busy: the body
    obtain ⟨U, hU⟩ : ∃ U, W.putObj (D + 1) (.loop { lp .ready with state := .busy }) = U := ⟨_, rfl⟩
    have uI : I pre U := by rw [← hU]; exact hI.putObj _ hi (by omega) hl rfl
    have uL : U.heap[D + 1]? = some (.loop { lp .ready with state := .busy }) := by rw [← hU]; exact World.putObj_heap_same hin
    have uD : U.heap[D]? = some (.deferred (some [])) := by rw [← hU]; exact (World.putObj_heap_other (by omega)).trans hk
    rw [hU]
    refine wpIn_mono (hbody _ pre x U hx hbt hpl uI) ?_
    rintro e a3 W3 ⟨rfl, hkeep, hi3⟩
    have l3 := hkeep.same _ _ uL rfl
    have d3 := hkeep.same _ _ uD rfl
    have hend := run_endRound (P := Tryd.prog) none l3
    have hin3 : D + 1 < W3.heap.size := (Array.getElem?_eq_some_iff.1 l3).1
    refine ⟨_, _, hend, rfl, hI.putObj _ hi3 (by omega) l3 rfl, ?_, (World.putObj_heap_other (by omega)).trans d3⟩
    exact World.putObj_heap_same hin3
  case done =>
    rintro e W2 ⟨⟨v, rfl⟩, hi, hl, hk⟩
    have hend := run_endLoop (P := Tryd.prog) hl (by rw [elp]; simp)
    exact ⟨none, _, hend, hdone D _ (by omega) (hI.putObj _ hi (by omega) hl rfl) ((World.putObj_heap_other (by omega)).trans hk)⟩
theorem each_loop {n : Nat} {g : Operand} {p : Tmp} {assign body : Code} {Q : Exit → Act → World → Prop} {a : Act} {w : World}
    (s : Nat) (hs : s < 2 ^ 24) (hg : a.eval g = .func (.func 43) #[.int .u64 s] #[]) (B : Nat)
    (I : List Nat → World → Prop) (hI : OwnFrom w.heap.size I) (hT : ∀ pre W, I pre W → TabZ B W) (h0 : I [] w) (a₁ : Nat → Act)
    (hassign : ∀ (l x : Nat) (W : World) (K : Act → World → Prop), K (a₁ x) W →
      assign.wpIn (Fence.wide.inRound l) (n - 1 - 1) Tryd.prog (Exit.then K (fun _ _ _ => False)) { tmps := a.tmps.setIfInBounds p (.int .i64 (x : Nat)), defers := [] } W)
    (hbody : ∀ (l : Nat) (pre : List Nat) (x : Nat) (W : World), x < 24 → pre.length < 24 → I pre W →
      body.wpIn (Fence.wide.inRound l) (n - 1 - 1) Tryd.prog (eachPost I (pre ++ [x]) W) (a₁ x) W)
    (hdone : ∀ (D : Nat) (W : World), w.heap.size ≤ D → I (bitsN s) W → W.heap[D]? = some (.deferred (some [])) →
      Q .normal { a with defers := { target := .collected D, args := #[] } :: a.defers } W) :
    (Code.rangeFunc g #[p] assign body).wpIn Fence.wide n Tryd.prog Q a w :=
  each_loopB s hs hg B I hI hT h0 a₁ hassign (fun l pre x W hx _ hpl hi => hbody l pre x W hx hpl hi) hdone
theorem each_loopP {n : Nat} {g : Operand} {p : Tmp} {assign body : Code} {Q : Exit → Act → World → Prop} {a : Act} {w : World}
    (s : Nat) (hs : s < 2 ^ 24) (hg : a.eval g = .func (.func 43) #[.int .u64 s] #[]) (B : Nat)
    (I : List Nat → World → Prop) (hI : OwnFrom w.heap.size I) (hT : ∀ pre W, I pre W → TabZ B W) (h0 : I [] w) (a₁ : Nat → Act)
    (hassign : ∀ (l x : Nat) (W : World) (K : Act → World → Prop), K (a₁ x) W →
      assign.wpIn (Fence.wide.inRound l) (n - 1 - 1) Tryd.prog (Exit.then K (fun _ _ _ => False)) { tmps := a.tmps.setIfInBounds p (.int .i64 (x : Nat)), defers := [] } W)
    (hbody : ∀ (l : Nat) (pre : List Nat) (x : Nat) (W : World), (∀ z ∈ pre, s.testBit z = true) → s.testBit x = true → pre.length < 24 → I pre W →
      body.wpIn (Fence.wide.inRound l) (n - 1 - 1) Tryd.prog (eachPost I (pre ++ [x]) W) (a₁ x) W)
    (hdone : ∀ (D : Nat) (W : World), w.heap.size ≤ D → I (bitsN s) W → W.heap[D]? = some (.deferred (some [])) →
      Q .normal { a with defers := { target := .collected D, args := #[] } :: a.defers } W) :
    (Code.rangeFunc g #[p] assign body).wpIn Fence.wide n Tryd.prog Q a w :=
  each_loopB s hs hg B (fun pre W => I pre W ∧ ∀ z ∈ pre, s.testBit z = true) (OwnFrom.and hI (fun _ _ _ _ hs _ _ => hs)) (fun pre W h => hT pre W h.1) ⟨h0, fun z hz => by cases hz⟩ a₁ hassign
    (fun l pre x W _ hb hpl hi => wpIn_mono (hbody l pre x W hi.2 hb hpl hi.1) (fun _ _ _ ⟨h1, h2, h3⟩ => ⟨h1, h2, h3, fun z hz => by
      rcases List.mem_append.1 hz with h | h
      · exact hi.2 z h
      · rw [List.mem_singleton.1 h]; exact hb⟩)) (fun D W hD hi hk => hdone D W hD hi.1 hk)
end Go.Proofs.YtaacofbmbpkeoaaDoor
