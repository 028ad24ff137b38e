/- A range over the library's iterator of a map's keys, and the library's collecting of them. -/
import Derived.Test.YtiponiflebmooaaKeys
import Derived.Test.YtiponiflebmooaaLstN
namespace Go.Proofs.Ytiponiflebmooaa
open Go.RowKit Go.Shelf Go.Maps
attribute [local go_sem] Oper.semAt_some
set_option maxRecDepth 1000000
set_option maxHeartbeats 1000000 in
theorem keys_loop {n : Nat} {g : Operand} {pt : Tmp} {assign body : Code} {Q : Exit → Act → World → Prop} {a : Act} {w : World}
    (p b nn : Nat) (D0 : DataW Unit) (hp : Boxed w p 51 (.map (some b))) (hown : w.ownsMap Try.prog 50 RB b nn D0) (hg : a.eval g = .func (.func 35) #[] #[.pointer (some ⟨p, 0, none⟩)])
    (I : List Nat → World → Prop) (hI : OwnFrom w.heap.size I) (h0 : I [] w) (a₁ : Nat → Act)
    (hassign : ∀ (l x : Nat) (W : World) (K : Act → World → Prop), K (a₁ x) W →
      assign.wpIn (Fence.wide.inRound l) (n - 1 - 1) Try.prog (Exit.then K (fun _ _ _ => False)) { tmps := a.tmps.setIfInBounds pt (.int .u64 ((x : Nat) : Int)), defers := [] } W)
    (hbody : ∀ (l : Nat) (pre : List Nat) (x : Nat) (W : World), pre.length < nn → I pre W →
      body.wpIn (Fence.wide.inRound l) (n - 1 - 1) Try.prog (eachPost I (pre ++ [x]) W) (a₁ x) W)
    (hdone : ∀ (D : Nat) (W : World) (ss : List Nat), w.heap.size ≤ D → (∀ x : Nat, x ∈ ss ↔ has D0 (kL x) = true) → ss.Nodup → ss.length ≤ nn → I ss W → W.heap[D]? = some (.deferred (some [])) →
      Q .normal { a with defers := { target := .collected D, args := #[] } :: a.defers } W) :
    (Code.rangeFunc g #[pt] assign body).wpIn Fence.wide n Try.prog Q a w := by
  refine wpIn_rangeFunc ?_
  intro fn hfn
  -- the statement's own block of deferred calls, and the loop's record behind it
  generalize hD : w.heap.size = D at *
  let lp : LoopState → Loop := fun st => { state := st, pending := none, fn := fn, tmps := a.tmps, params := #[pt], assign := assign, body := body, defers := D }
  have elp : ∀ st, lp st = { state := st, pending := none, fn := fn, tmps := a.tmps, params := #[pt], assign := assign, body := body, defers := D } := fun _ => rfl
  let V := (w.alloc (.deferred (some []))).alloc (.loop (lp .ready))
  have vL : V.heap[D + 1]? = some (.loop (lp .ready)) := by
    have h := World.alloc_heap_new (w.alloc (.deferred (some []))) (.loop (lp .ready))
    rwa [World.size_alloc, hD] at h
  have vD : V.heap[D]? = some (.deferred (some [])) := by
    have h := World.alloc_heap_new w (.deferred (some []))
    rw [hD] at h
    exact (Below.heap_alloc _ _ _ (by simp; omega)).trans h
  have vI : I [] V := hI.alloc _ (hI.alloc _ h0)
  have henter : (Instr.enterLoop fn a.tmps #[pt] assign body Fence.wide.round).run Try.prog w = .ok (D + 1, [{ target := .collected D, args := #[] }]) V := by
    have h := run_enterLoop_outer (P := Try.prog) (w := w) fn a.tmps #[pt] assign body
    rw [hD] at h
    exact h
  have eg := enters_of (P := Try.prog) Try.func35 (by kernel_rfl) rfl
  have vB : Boxed V p 51 (.map (some b)) := (hp.alloc _).alloc _
  have vM : V.ownsMap Try.prog 50 RB b nn D0 := (hown.alloc _).alloc _
  have vS : V.heap.size = D + 2 := by
    show ((w.alloc (.deferred (some []))).alloc (.loop (lp .ready))).heap.size = D + 2
    rw [World.size_alloc, World.size_alloc, hD]
  refine ⟨D + 1, [{ target := .collected D, args := #[] }], V, { target := .fn (.func 35) #[.pointer (some ⟨p, 0, none⟩)], args := #[.func (.yield (D + 1)) #[] #[]] }, V, 35,
    #[.func (.yield (D + 1)) #[] #[], .pointer (some ⟨p, 0, none⟩)], V, henter, ?_, fun _ _ => trivial, ?_, fun h => (by simp [Fence.wide] at h), ?_⟩
  · simp only [resolve, hg]
    simp [go_sem]
  · simp [invoke, go_sem, eg _ _]
  refine (keys_in (n - 1) p b nn (D + 1) D0 (fun pre W => I pre W ∧ W.heap[D + 1]? = some (.loop (lp .ready)) ∧ W.heap[D]? = some (.deferred (some []))) V vB.cell vM ?own ?round (And.intro vI (And.intro vL vD))).mono ?done
  case own =>
    rintro pre W W' row ⟨hi, hl, hk⟩ hg2 hrow
    have hlt := (Array.getElem?_eq_some_iff.1 hl).1
    have hne : ∀ k, k < D + 2 → some k ≠ row := fun k hk e => by
      have := (hrow k e.symm).1
      omega
    exact ⟨hI _ _ _ row hi hg2 (fun r e => ⟨by have := (hrow r e).1; omega, (hrow r e).2⟩), (hg2.block _ hlt (hne _ (by omega))).trans hl, (hg2.block _ (by omega) (hne _ (by omega))).trans hk⟩
  case round =>
    rintro pre x W ⟨hi, hl, hk⟩ _ hpl
    have hin : D + 1 < W.heap.size := (Array.getElem?_eq_some_iff.1 hl).1
    have hy := run_yield (P := Try.prog) (args := #[Value.int .u64 ((x : Nat) : Int)]) hl (by rw [elp]; rfl)
    have hy2 : (Instr.yield (D + 1) #[Value.int .u64 ((x : Nat) : Int)]).run Try.prog W = .ok (.round (D + 1) fn (a.tmps.setIfInBounds pt (.int .u64 ((x : Nat) : Int))) assign body) W := by
      rw [hy, elp]; simp
    refine ⟨fn, _, assign, body, hy2, roundIn_of_wpIn hfn ?_⟩
    refine hassign (D + 1) x W _ ⟨_, run_beginRound hl (by rw [elp]), ?_⟩
    -- the record is busy: the body
    obtain ⟨U, hU⟩ : ∃ U, W.putObj (D + 1) (.loop { lp .ready with state := .busy }) = U := ⟨_, rfl⟩
    have uI : I pre U := by rw [← hU]; exact hI.putObj _ hi (by omega) hl rfl
    have uL : U.heap[D + 1]? = some (.loop { lp .ready with state := .busy }) := by rw [← hU]; exact World.putObj_heap_same hin
    have uD : U.heap[D]? = some (.deferred (some [])) := by rw [← hU]; exact (World.putObj_heap_other (by omega)).trans hk
    rw [hU]
    refine wpIn_mono (hbody _ pre x U hpl uI) ?_
    rintro e a3 W3 ⟨rfl, hkeep, hi3⟩
    have l3 := hkeep.same _ _ uL rfl
    have d3 := hkeep.same _ _ uD rfl
    have hend := run_endRound (P := Try.prog) none l3
    have hin3 : D + 1 < W3.heap.size := (Array.getElem?_eq_some_iff.1 l3).1
    refine ⟨_, _, hend, rfl, ?_, hI.putObj _ hi3 (by omega) l3 rfl, ?_, (World.putObj_heap_other (by omega)).trans d3⟩
    · refine ⟨?_, fun k o hk2 ho => ?_⟩
      · have s1 := hkeep.size
        rw [← hU] at s1
        simpa using s1
      · by_cases e : k = D + 1
        · subst e
          rw [hl] at hk2
          cases hk2
          exact World.putObj_heap_same hin3
        · have hu : U.heap[k]? = some o := by rw [← hU]; exact (World.putObj_heap_other e).trans hk2
          exact (World.putObj_heap_other e).trans (hkeep.same k o hu ho)
    · exact World.putObj_heap_same hin3
  case done =>
    rintro e W2 ⟨⟨v, rfl⟩, ss, hmem, hnd, hlen, hi, hl, hk⟩
    have hend := run_endLoop (P := Try.prog) hl (by rw [elp]; simp)
    exact ⟨none, _, hend, hdone D _ ss (by omega) hmem hnd hlen (hI.putObj _ hi (by omega) hl rfl) ((World.putObj_heap_other (by omega)).trans hk)⟩
end Go.Proofs.Ytiponiflebmooaa
