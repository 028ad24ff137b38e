/- Merged: EachL Keys LstN KeysL. -/
import Derived.Test.YtehdneppleifdaaGreatDoorMGAG
import Derived.RangeFuncSeq
import Derived.Sort.MapsRangeIn
import Derived.Maps.RangeWalk
import Derived.Test.YtehdneppleifdaaGreatDoorMGAE
import Derived.Test.YtehdneppleifdaaGreatDoorMGAB
namespace Go.Proofs.YtehdneppleifdaaGreatDoor
open Go.RowKit Go.Shelf
set_option maxRecDepth 1000000
/-- How the body of a round ends: it goes on; what is no cells lies as it lay; the invariant holds of one element more. -/
def eachPost (I : List Nat → World → Prop) (xs : List Nat) (W : World) : Exit → Act → World → Prop := fun e _ W' => e = .normal ∧ KeepsOthers W W' ∧ I xs W'
set_option maxHeartbeats 1000000 in
theorem each_loopB {n : Nat} {g : Operand} {p : Tmp} {assign body : Code} {Q : Exit → Act → World → Prop} {a : Act} {w : World}
    (s : Nat) (hs : s < 2 ^ 24) (hg : a.eval g = .func (.func 60) #[.int .u64 s] #[]) (B : Nat)
    (I : List Nat → World → Prop) (hI : OwnFrom w.heap.size I) (hT : ∀ pre W, I pre W → TabZ B W) (h0 : I [] w) (a₁ : Nat → Act)
    (hassign : ∀ (l x : Nat) (W : World) (K : Act → World → Prop), K (a₁ x) W →
      assign.wpIn (Fence.wide.inRound l) (n - 1 - 1) Tryz.prog (Exit.then K (fun _ _ _ => False)) { tmps := a.tmps.setIfInBounds p (.int .i64 (x : Nat)), defers := [] } W)
    (hbody : ∀ (l : Nat) (pre : List Nat) (x : Nat) (W : World), x < 24 → s.testBit x = true → pre.length < 24 → I pre W →
      body.wpIn (Fence.wide.inRound l) (n - 1 - 1) Tryz.prog (eachPost I (pre ++ [x]) W) (a₁ x) W)
    (hdone : ∀ (D : Nat) (W : World), w.heap.size ≤ D → I (bitsN s) W → W.heap[D]? = some (.deferred (some [])) →
      Q .normal { a with defers := { target := .collected D, args := #[] } :: a.defers } W) :
    (Code.rangeFunc g #[p] assign body).wpIn Fence.wide n Tryz.prog Q a w := by
  refine wpIn_rangeFunc ?_
  intro fn hfn
  -- the statement's own block of deferred calls, and the loop's record behind it
  generalize hD : w.heap.size = D at *
  let lp : LoopState → Loop := fun st => { state := st, pending := none, fn := fn, tmps := a.tmps, params := #[p], assign := assign, body := body, defers := D }
  have elp : ∀ st, lp st = { state := st, pending := none, fn := fn, tmps := a.tmps, params := #[p], assign := assign, body := body, defers := D } := fun _ => rfl
  let V := (w.alloc (.deferred (some []))).alloc (.loop (lp .ready))
  have vL : V.heap[D + 1]? = some (.loop (lp .ready)) := by
    have h := World.alloc_heap_new (w.alloc (.deferred (some []))) (.loop (lp .ready))
    rwa [World.size_alloc, hD] at h
  have vD : V.heap[D]? = some (.deferred (some [])) := by
    have h := World.alloc_heap_new w (.deferred (some []))
    rw [hD] at h
    exact (Below.heap_alloc _ _ _ (by simp; omega)).trans h
  have vI : I [] V := hI.alloc _ (hI.alloc _ h0)
  have henter : (Instr.enterLoop fn a.tmps #[p] assign body Fence.wide.round).run Tryz.prog w = .ok (D + 1, [{ target := .collected D, args := #[] }]) V := by
    have h := run_enterLoop_outer (P := Tryz.prog) (w := w) fn a.tmps #[p] assign body
    rw [hD] at h
    exact h
  have eg := enters_of (P := Tryz.prog) Tryz.func60 (by kernel_rfl) rfl
  refine ⟨D + 1, [{ target := .collected D, args := #[] }], V, { target := .fn (.func 60) #[], args := #[.int .u64 s, .func (.yield (D + 1)) #[] #[]] }, V, 60,
    #[.int .u64 s, .func (.yield (D + 1)) #[] #[]], V, henter, ?_, fun _ _ => trivial, ?_, fun h => (by simp [Fence.wide] at h), ?_⟩
  · simp only [resolve, hg]
    simp [go_sem]
  · simp [invoke, go_sem, eg _ _]
  -- what holds between two rounds: the caller's invariant, the record ready, the block as it was laid
  refine (each_in (n - 1) s hs B (D + 1) (fun pre W => I pre W ∧ W.heap[D + 1]? = some (.loop (lp .ready)) ∧ W.heap[D]? = some (.deferred (some [])))
    (fun pre W h => hT pre W h.1) ?round V (And.intro vI (And.intro vL vD))).mono ?done
  case round =>
    rintro pre x W ⟨hi, hl, hk⟩ hx hbt hpl
    have hin : D + 1 < W.heap.size := (Array.getElem?_eq_some_iff.1 hl).1
    have hy := run_yield (P := Tryz.prog) (args := #[Value.int .i64 (x : Nat)]) hl (by rw [elp]; rfl)
    have hy2 : (Instr.yield (D + 1) #[Value.int .i64 (x : Nat)]).run Tryz.prog W = .ok (.round (D + 1) fn (a.tmps.setIfInBounds p (.int .i64 (x : Nat))) assign body) W := by
      rw [hy, elp]; simp
    refine ⟨fn, _, assign, body, hy2, roundIn_of_wpIn hfn ?_⟩
    refine hassign (D + 1) x W _ ⟨_, run_beginRound hl (by rw [elp]), ?_⟩
    -- the record is busy: the body
    obtain ⟨U, hU⟩ : ∃ U, W.putObj (D + 1) (.loop { lp .ready with state := .busy }) = U := ⟨_, rfl⟩
    have uI : I pre U := by rw [← hU]; exact hI.putObj _ hi (by omega) hl rfl
    have uL : U.heap[D + 1]? = some (.loop { lp .ready with state := .busy }) := by rw [← hU]; exact World.putObj_heap_same hin
    have uD : U.heap[D]? = some (.deferred (some [])) := by rw [← hU]; exact (World.putObj_heap_other (by omega)).trans hk
    rw [hU]
    refine wpIn_mono (hbody _ pre x U hx hbt hpl uI) ?_
    rintro e a3 W3 ⟨rfl, hkeep, hi3⟩
    have l3 := hkeep.same _ _ uL rfl
    have d3 := hkeep.same _ _ uD rfl
    have hend := run_endRound (P := Tryz.prog) none l3
    have hin3 : D + 1 < W3.heap.size := (Array.getElem?_eq_some_iff.1 l3).1
    refine ⟨_, _, hend, rfl, hI.putObj _ hi3 (by omega) l3 rfl, ?_, (World.putObj_heap_other (by omega)).trans d3⟩
    exact World.putObj_heap_same hin3
  case done =>
    rintro e W2 ⟨⟨v, rfl⟩, hi, hl, hk⟩
    have hend := run_endLoop (P := Tryz.prog) hl (by rw [elp]; simp)
    exact ⟨none, _, hend, hdone D _ (by omega) (hI.putObj _ hi (by omega) hl rfl) ((World.putObj_heap_other (by omega)).trans hk)⟩
theorem each_loop {n : Nat} {g : Operand} {p : Tmp} {assign body : Code} {Q : Exit → Act → World → Prop} {a : Act} {w : World}
    (s : Nat) (hs : s < 2 ^ 24) (hg : a.eval g = .func (.func 60) #[.int .u64 s] #[]) (B : Nat)
    (I : List Nat → World → Prop) (hI : OwnFrom w.heap.size I) (hT : ∀ pre W, I pre W → TabZ B W) (h0 : I [] w) (a₁ : Nat → Act)
    (hassign : ∀ (l x : Nat) (W : World) (K : Act → World → Prop), K (a₁ x) W →
      assign.wpIn (Fence.wide.inRound l) (n - 1 - 1) Tryz.prog (Exit.then K (fun _ _ _ => False)) { tmps := a.tmps.setIfInBounds p (.int .i64 (x : Nat)), defers := [] } W)
    (hbody : ∀ (l : Nat) (pre : List Nat) (x : Nat) (W : World), x < 24 → pre.length < 24 → I pre W →
      body.wpIn (Fence.wide.inRound l) (n - 1 - 1) Tryz.prog (eachPost I (pre ++ [x]) W) (a₁ x) W)
    (hdone : ∀ (D : Nat) (W : World), w.heap.size ≤ D → I (bitsN s) W → W.heap[D]? = some (.deferred (some [])) →
      Q .normal { a with defers := { target := .collected D, args := #[] } :: a.defers } W) :
    (Code.rangeFunc g #[p] assign body).wpIn Fence.wide n Tryz.prog Q a w :=
  each_loopB s hs hg B I hI hT h0 a₁ hassign (fun l pre x W hx _ hpl hi => hbody l pre x W hx hpl hi) hdone
theorem each_loopP {n : Nat} {g : Operand} {p : Tmp} {assign body : Code} {Q : Exit → Act → World → Prop} {a : Act} {w : World}
    (s : Nat) (hs : s < 2 ^ 24) (hg : a.eval g = .func (.func 60) #[.int .u64 s] #[]) (B : Nat)
    (I : List Nat → World → Prop) (hI : OwnFrom w.heap.size I) (hT : ∀ pre W, I pre W → TabZ B W) (h0 : I [] w) (a₁ : Nat → Act)
    (hassign : ∀ (l x : Nat) (W : World) (K : Act → World → Prop), K (a₁ x) W →
      assign.wpIn (Fence.wide.inRound l) (n - 1 - 1) Tryz.prog (Exit.then K (fun _ _ _ => False)) { tmps := a.tmps.setIfInBounds p (.int .i64 (x : Nat)), defers := [] } W)
    (hbody : ∀ (l : Nat) (pre : List Nat) (x : Nat) (W : World), (∀ z ∈ pre, s.testBit z = true) → s.testBit x = true → pre.length < 24 → I pre W →
      body.wpIn (Fence.wide.inRound l) (n - 1 - 1) Tryz.prog (eachPost I (pre ++ [x]) W) (a₁ x) W)
    (hdone : ∀ (D : Nat) (W : World), w.heap.size ≤ D → I (bitsN s) W → W.heap[D]? = some (.deferred (some [])) →
      Q .normal { a with defers := { target := .collected D, args := #[] } :: a.defers } W) :
    (Code.rangeFunc g #[p] assign body).wpIn Fence.wide n Tryz.prog Q a w :=
  each_loopB s hs hg B (fun pre W => I pre W ∧ ∀ z ∈ pre, s.testBit z = true) (OwnFrom.and hI (fun _ _ _ _ hs _ _ => hs)) (fun pre W h => hT pre W h.1) ⟨h0, fun z hz => by cases hz⟩ a₁ hassign
    (fun l pre x W _ hb hpl hi => wpIn_mono (hbody l pre x W hi.2 hb hpl hi.1) (fun _ _ _ ⟨h1, h2, h3⟩ => ⟨h1, h2, h3, fun z hz => by
      rcases List.mem_append.1 hz with h | h
      · exact hi.2 z h
      · rw [List.mem_singleton.1 h]; exact hb⟩)) (fun D W hD hi hk => hdone D W hD hi.1 hk)
end Go.Proofs.YtehdneppleifdaaGreatDoor

namespace Go.Proofs.YtehdneppleifdaaGreatDoor
open Go.RowKit Go.Shelf Go.Maps
attribute [local go_sem] Oper.semAt_some
set_option maxRecDepth 1000000
abbrev TK : TypeId := 43
abbrev TM : TypeId := 72
/-- How the map's elements read. -/
noncomputable abbrev RB : Value → Option (DataW Unit × List MemPlace) := plainElem Tryz.prog 4
theorem keyedK : Keyed Tryz.prog 43 := int_keyed Tryz.underlying43
def kL (x : Nat) : Lit := .int .u64 ((x : Nat) : Int)
theorem plainElem_bool_inv {v : Value} {y : DataW Unit × List MemPlace} (h : RB v = some y) : ∃ b, v = .bool b ∧ y = (.lit (.bool b), []) := by
  unfold RB plainElem at h
  rw [Tryz.underlying4] at h
  cases v <;> simp at h
  exact ⟨_, rfl, h.symm⟩
theorem key_inv {key : Value} {kl : Lit} (h : keyOf Tryz.prog 43 key = some kl) : ∃ x : Nat, key = .int .u64 ((x : Nat) : Int) ∧ kl = kL x ∧ x < 18446744073709551616 := by
  obtain ⟨a, rfl, rfl, hw⟩ := Maps.keyOf_int_inv Tryz.underlying43 h
  have e1 : IntKind.u64.min = 0 := rfl
  have e2 : IntKind.u64.max = 18446744073709551615 := rfl
  simp only [Lit.wf, e1, e2, Bool.and_eq_true, decide_eq_true_eq] at hw
  obtain ⟨x, rfl⟩ := Int.eq_ofNat_of_zero_le (show 0 ≤ a by omega)
  exact ⟨x, rfl, rfl, by omega⟩
theorem same_kL (x y : Nat) : (kL y).sameKey (kL x) = decide (y = x) := by
  by_cases e : y = x
  · subst e; simp [kL, Lit.sameKey]
  · have : ((y : Nat) : Int) ≠ ((x : Nat) : Int) := by omega
    simp [kL, Lit.sameKey, this, e]
theorem ownsMap_keys {w : World} {b n : Nat} {D : DataW Unit} (h : w.ownsMap Tryz.prog 43 RB b n D) {kl : Lit} (hk : has D kl = true) : ∃ x : Nat, kl = kL x := by
  obtain ⟨es, clock, _, F, _, rfl⟩ := h
  rw [has_eq, List.any_eq_true] at hk
  obtain ⟨p, hp, hs⟩ := hk
  obtain ⟨v, hv⟩ := fit_keys F p (mem_sorted.1 hp)
  obtain ⟨x, _, e, _⟩ := key_inv hv
  refine ⟨x, ?_⟩
  rw [e] at hs
  cases kl <;> simp [kL, Lit.sameKey] at hs
  obtain ⟨rfl, rfl⟩ := hs
  rfl
/-- What has been met so far of the map's keys. -/
structure Met (D : DataW Unit) (left : Lit → Bool) (ss : List Nat) : Prop where
  mem : ∀ x : Nat, x ∈ ss ↔ has D (kL x) = true ∧ left (kL x) = false
  nodup : ss.Nodup
  sub : ∀ x : Nat, left (kL x) = true → has D (kL x) = true
theorem Met.start (D : DataW Unit) : Met D (has D) [] := ⟨fun x => ⟨fun h => (by cases h), fun h => (by rw [h.1] at h; cases h.2)⟩, List.nodup_nil, fun _ h => h⟩
theorem Met.step {D : DataW Unit} {left : Lit → Bool} {ss : List Nat} (h : Met D left ss) {x : Nat} (hl : left (kL x) = true) : Met D (fun z => left z && !z.sameKey (kL x)) (ss ++ [x]) := by
  refine ⟨fun y => ?_, ?_, fun y hy => h.sub y (by simp only [Bool.and_eq_true] at hy; exact hy.1)⟩
  · rw [List.mem_append, List.mem_singleton, h.mem, same_kL]
    by_cases e : y = x
    · subst e
      simp [hl, h.sub y hl]
    · simp [e]
  · rw [List.nodup_append]
    refine ⟨h.nodup, by simp, ?_⟩
    intro a ha b hb e
    rw [List.mem_singleton] at hb
    subst hb e
    have := ((h.mem a).1 ha).2
    rw [hl] at this
    cases this
theorem iter_cells {w : World} {b r n : Nat} {D : DataW Unit} {left : Lit → Bool} {cnt : Nat} (h : w.ranges Tryz.prog 43 RB b r n D left cnt) : ∃ o : Obj, w.heap[r]? = some o ∧ o.isCells = false := by
  obtain ⟨es, clock, since, seen, c0, _, _, _, _, hr, _⟩ := h
  exact ⟨_, hr, rfl⟩
theorem ranges_others {w w' : World} {b r n : Nat} {D : DataW Unit} {left : Lit → Bool} {cnt : Nat} (h : w.ranges Tryz.prog 43 RB b r n D left cnt) (hk : KeepsOthers w w') : w'.ranges Tryz.prog 43 RB b r n D left cnt := by
  obtain ⟨es, clock, since, seen, c0, hb, F, hs, hD, hr, rest⟩ := h
  exact ⟨es, clock, since, seen, c0, hk.same b _ hb rfl, F, hs, hD, hk.same r _ hr rfl, rest⟩
set_option maxHeartbeats 2000000 in
theorem keys_in (n : Nat) (p b nn l : Nat) (D0 : DataW Unit) (J : List Nat → World → Prop) (W : World) (hp : W.cell? ⟨p, 0, none⟩ = some (.map (some b))) (hown : W.ownsMap Tryz.prog 43 RB b nn D0)
    (hJ : OwnFrom W.heap.size J)
    (hY : ∀ pre x X, J pre X → has D0 (kL x) = true → pre.length < nn → YieldAt Fence.wide (n - 1) Tryz.prog l #[.int .u64 ((x : Nat) : Int)] X fun e X' => e = .returned (.bool true) ∧ KeepsOthers X X' ∧ J (pre ++ [x]) X')
    (h0 : J [] W) :
    CallsIn Fence.wide n Tryz.prog 79 #[.func (.yield l) #[] #[], .pointer (some ⟨p, 0, none⟩)] W fun e W' => (∃ v, e = .returned v) ∧ ∃ ss : List Nat, (∀ x : Nat, x ∈ ss ↔ has D0 (kL x) = true) ∧ ss.Nodup ∧ ss.length ≤ nn ∧ J ss W' := by
  have HY := Lib.hid hY
  have HJ := Lib.hid hJ
  have H0 := Lib.hid h0
  have HOW := Lib.hid hown
  have hsz := hown.size_le
  clear hY hJ h0
  refine callsIn_of_wp Tryz.func79 rfl trivial ?_ rfl
  simp only [Tryz.ntmps79, List.size_toArray, List.length_cons, List.length_nil, Nat.reduceAdd, Nat.reduceSub, Array.replicate_succ, Array.replicate_zero, List.push_toArray, List.append_toArray, List.nil_append, List.cons_append]
  gi_wp2_with (first
    | (gi_at_range; refine wpListIn_range_own _ rfl _ 72 rfl 43 4 keyedK Tryz.underlying72 RB b nn _ rfl hown ?_; intro w0 hrg0 hg0 hs0)
    | gi_in)
  go_frame
  gi_loopw [3] (fun _ wr => ∃ (left : Lit → Bool) (cnt : Nat) (ss : List Nat), wr.ranges Tryz.prog 43 RB b W.heap.size nn D0 left cnt ∧ Met D0 left ss ∧ ss.length + cnt ≤ nn ∧ J ss wr) (fun _ wr => wr.rangeLeft b W.heap.size)
  case atStart =>
    exact ⟨_, _, [], hrg0, Met.start D0, by simpa using hsz, HJ.out [] W w0 none H0.out hg0 (fun r e => by cases e)⟩
  case round =>
    obtain ⟨left, cnt, ss, hrg, hM, hlen, hJs⟩ := hrel
    have HM := Lib.hid hM
    have HJS := Lib.hid hJs
    have HRG := Lib.hid hrg
    clear hM hJs
    gi_wp2_with (first
      | (gi_at_next; refine wpListIn_next_ranges _ rfl _ rfl 43 keyedK RB (fun x : Nat => Value.int .u64 ((x : Nat) : Int)) id (fun key kl hk => by obtain ⟨x, hx, _⟩ := key_inv hk; exact ⟨x, hx⟩) (fun v _ _ => ⟨v, rfl⟩) b W.heap.size nn _ _ _ rfl hrg ?_ ?_)
      | gi_in)
    · intro hc0 hl0
      gi_wp2
      go_end0
      exact ⟨⟨_, rfl⟩, ss, fun x => ⟨fun h => ((HM.out.mem x).1 h).1, fun h => (HM.out.mem x).2 ⟨h, hl0 _⟩⟩, HM.out.nodup, by omega, HJS.out⟩
    · intro x c kl yd yp w2 cnt2 hkey hlk hv hat hrg2 hlt hg2 hs2 hen
      obtain ⟨x', ex, rfl, hx64⟩ := key_inv hkey
      obtain rfl : x = x' := by
        injection ex with _ e
        omega
      have hJ2 : J ss w2 := HJ.out ss wr w2 (some W.heap.size) HJS.out hg2 (fun r e => by cases e; exact ⟨Nat.le_refl _, iter_cells HRG.out⟩)
      obtain ⟨fn, tmps, assign, body, hy, hR⟩ := HY.out ss x w2 hJ2 (HM.out.sub x hlk) (by omega)
      clear hs2 hJ2
      gi_wp2
      refine ⟨fun h => (by simp [Fence.wide] at h), hR.mono ?_⟩
      rintro e W3 ⟨rfl, hk3, hJ3⟩
      have hrg3 := ranges_others hrg2 hk3
      gi_wp2
      go_roundw
      case rel => exact ⟨_, cnt2, ss ++ [x], hrg3, HM.out.step hlk, by rw [List.length_append, List.length_singleton]; omega, hJ3⟩
      case measure =>
        rw [hrg3.left_eq, HRG.out.left_eq]; exact hlt
end Go.Proofs.YtehdneppleifdaaGreatDoor

namespace Go.Proofs.YtehdneppleifdaaGreatDoor
open Go.RowKit
/-- The elements of a set, as ints. -/
def lstN (L : List Nat) : List Value := L.map fun (x : Nat) => Value.int .i64 (x : Int)
theorem lstN_snoc (L : List Nat) (x : Nat) : lstN (L ++ [x]) = lstN L ++ [.int .i64 (x : Nat)] := by simp [lstN]
theorem bits_le (s : Nat) : (bitsN s).length ≤ 24 := upK_len s 24
end Go.Proofs.YtehdneppleifdaaGreatDoor

namespace Go.Proofs.YtehdneppleifdaaGreatDoor
open Go.RowKit Go.Shelf Go.Maps
attribute [local go_sem] Oper.semAt_some
set_option maxRecDepth 1000000
set_option maxHeartbeats 1000000 in
theorem keys_loop {n : Nat} {g : Operand} {pt : Tmp} {assign body : Code} {Q : Exit → Act → World → Prop} {a : Act} {w : World}
    (p b nn : Nat) (D0 : DataW Unit) (hp : Boxed w p 72 (.map (some b))) (hown : w.ownsMap Tryz.prog 43 RB b nn D0) (hg : a.eval g = .func (.func 79) #[] #[.pointer (some ⟨p, 0, none⟩)])
    (I : List Nat → World → Prop) (hI : OwnFrom w.heap.size I) (h0 : I [] w) (a₁ : Nat → Act)
    (hassign : ∀ (l x : Nat) (W : World) (K : Act → World → Prop), K (a₁ x) W →
      assign.wpIn (Fence.wide.inRound l) (n - 1 - 1) Tryz.prog (Exit.then K (fun _ _ _ => False)) { tmps := a.tmps.setIfInBounds pt (.int .u64 ((x : Nat) : Int)), defers := [] } W)
    (hbody : ∀ (l : Nat) (pre : List Nat) (x : Nat) (W : World), pre.length < nn → I pre W →
      body.wpIn (Fence.wide.inRound l) (n - 1 - 1) Tryz.prog (eachPost I (pre ++ [x]) W) (a₁ x) W)
    (hdone : ∀ (D : Nat) (W : World) (ss : List Nat), w.heap.size ≤ D → (∀ x : Nat, x ∈ ss ↔ has D0 (kL x) = true) → ss.Nodup → ss.length ≤ nn → I ss W → W.heap[D]? = some (.deferred (some [])) →
      Q .normal { a with defers := { target := .collected D, args := #[] } :: a.defers } W) :
    (Code.rangeFunc g #[pt] assign body).wpIn Fence.wide n Tryz.prog Q a w := by
  refine wpIn_rangeFunc ?_
  intro fn hfn
  -- the statement's own block of deferred calls, and the loop's record behind it
  generalize hD : w.heap.size = D at *
  let lp : LoopState → Loop := fun st => { state := st, pending := none, fn := fn, tmps := a.tmps, params := #[pt], assign := assign, body := body, defers := D }
  have elp : ∀ st, lp st = { state := st, pending := none, fn := fn, tmps := a.tmps, params := #[pt], assign := assign, body := body, defers := D } := fun _ => rfl
  let V := (w.alloc (.deferred (some []))).alloc (.loop (lp .ready))
  have vL : V.heap[D + 1]? = some (.loop (lp .ready)) := by
    have h := World.alloc_heap_new (w.alloc (.deferred (some []))) (.loop (lp .ready))
    rwa [World.size_alloc, hD] at h
  have vD : V.heap[D]? = some (.deferred (some [])) := by
    have h := World.alloc_heap_new w (.deferred (some []))
    rw [hD] at h
    exact (Below.heap_alloc _ _ _ (by simp; omega)).trans h
  have vI : I [] V := hI.alloc _ (hI.alloc _ h0)
  have henter : (Instr.enterLoop fn a.tmps #[pt] assign body Fence.wide.round).run Tryz.prog w = .ok (D + 1, [{ target := .collected D, args := #[] }]) V := by
    have h := run_enterLoop_outer (P := Tryz.prog) (w := w) fn a.tmps #[pt] assign body
    rw [hD] at h
    exact h
  have eg := enters_of (P := Tryz.prog) Tryz.func79 (by kernel_rfl) rfl
  have vB : Boxed V p 72 (.map (some b)) := (hp.alloc _).alloc _
  have vM : V.ownsMap Tryz.prog 43 RB b nn D0 := (hown.alloc _).alloc _
  have vS : V.heap.size = D + 2 := by
    show ((w.alloc (.deferred (some []))).alloc (.loop (lp .ready))).heap.size = D + 2
    rw [World.size_alloc, World.size_alloc, hD]
  refine ⟨D + 1, [{ target := .collected D, args := #[] }], V, { target := .fn (.func 79) #[.pointer (some ⟨p, 0, none⟩)], args := #[.func (.yield (D + 1)) #[] #[]] }, V, 79,
    #[.func (.yield (D + 1)) #[] #[], .pointer (some ⟨p, 0, none⟩)], V, henter, ?_, fun _ _ => trivial, ?_, fun h => (by simp [Fence.wide] at h), ?_⟩
  · simp only [resolve, hg]
    simp [go_sem]
  · simp [invoke, go_sem, eg _ _]
  refine (keys_in (n - 1) p b nn (D + 1) D0 (fun pre W => I pre W ∧ W.heap[D + 1]? = some (.loop (lp .ready)) ∧ W.heap[D]? = some (.deferred (some []))) V vB.cell vM ?own ?round (And.intro vI (And.intro vL vD))).mono ?done
  case own =>
    rintro pre W W' row ⟨hi, hl, hk⟩ hg2 hrow
    have hlt := (Array.getElem?_eq_some_iff.1 hl).1
    have hne : ∀ k, k < D + 2 → some k ≠ row := fun k hk e => by
      have := (hrow k e.symm).1
      omega
    exact ⟨hI _ _ _ row hi hg2 (fun r e => ⟨by have := (hrow r e).1; omega, (hrow r e).2⟩), (hg2.block _ hlt (hne _ (by omega))).trans hl, (hg2.block _ (by omega) (hne _ (by omega))).trans hk⟩
  case round =>
    rintro pre x W ⟨hi, hl, hk⟩ _ hpl
    have hin : D + 1 < W.heap.size := (Array.getElem?_eq_some_iff.1 hl).1
    have hy := run_yield (P := Tryz.prog) (args := #[Value.int .u64 ((x : Nat) : Int)]) hl (by rw [elp]; rfl)
    have hy2 : (Instr.yield (D + 1) #[Value.int .u64 ((x : Nat) : Int)]).run Tryz.prog W = .ok (.round (D + 1) fn (a.tmps.setIfInBounds pt (.int .u64 ((x : Nat) : Int))) assign body) W := by
      rw [hy, elp]; simp
    refine ⟨fn, _, assign, body, hy2, roundIn_of_wpIn hfn ?_⟩
    refine hassign (D + 1) x W _ ⟨_, run_beginRound hl (by rw [elp]), ?_⟩
    -- the record is busy: the body
    obtain ⟨U, hU⟩ : ∃ U, W.putObj (D + 1) (.loop { lp .ready with state := .busy }) = U := ⟨_, rfl⟩
    have uI : I pre U := by rw [← hU]; exact hI.putObj _ hi (by omega) hl rfl
    have uL : U.heap[D + 1]? = some (.loop { lp .ready with state := .busy }) := by rw [← hU]; exact World.putObj_heap_same hin
    have uD : U.heap[D]? = some (.deferred (some [])) := by rw [← hU]; exact (World.putObj_heap_other (by omega)).trans hk
    rw [hU]
    refine wpIn_mono (hbody _ pre x U hpl uI) ?_
    rintro e a3 W3 ⟨rfl, hkeep, hi3⟩
    have l3 := hkeep.same _ _ uL rfl
    have d3 := hkeep.same _ _ uD rfl
    have hend := run_endRound (P := Tryz.prog) none l3
    have hin3 : D + 1 < W3.heap.size := (Array.getElem?_eq_some_iff.1 l3).1
    refine ⟨_, _, hend, rfl, ?_, hI.putObj _ hi3 (by omega) l3 rfl, ?_, (World.putObj_heap_other (by omega)).trans d3⟩
    · refine ⟨?_, fun k o hk2 ho => ?_⟩
      · have s1 := hkeep.size
        rw [← hU] at s1
        simpa using s1
      · by_cases e : k = D + 1
        · subst e
          rw [hl] at hk2
          cases hk2
          exact World.putObj_heap_same hin3
        · have hu : U.heap[k]? = some o := by rw [← hU]; exact (World.putObj_heap_other e).trans hk2
          exact (World.putObj_heap_other e).trans (hkeep.same k o hu ho)
    · exact World.putObj_heap_same hin3
  case done =>
    rintro e W2 ⟨⟨v, rfl⟩, ss, hmem, hnd, hlen, hi, hl, hk⟩
    have hend := run_endLoop (P := Tryz.prog) hl (by rw [elp]; simp)
    exact ⟨none, _, hend, hdone D _ ss (by omega) hmem hnd hlen (hI.putObj _ hi (by omega) hl rfl) ((World.putObj_heap_other (by omega)).trans hk)⟩
end Go.Proofs.YtehdneppleifdaaGreatDoor
