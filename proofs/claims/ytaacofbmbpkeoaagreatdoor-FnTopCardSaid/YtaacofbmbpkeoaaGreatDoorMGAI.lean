/- Merged: EachL Round GrpFun GrpMul Shift SetMem. -/
import Derived.Test.YtaacofbmbpkeoaaGreatDoorMGAH
import Derived.Deep.RegionHeld3
import Derived.Deep.DeepCutAuto
import Derived.Test.YtaacofbmbpkeoaaGreatDoorMGAE
namespace Go.Proofs.YtaacofbmbpkeoaaGreatDoor
open Go.RowKit Go.Shelf
set_option maxRecDepth 1000000
/-- How the body of a round ends: it goes on; what is no cells lies as it lay; the invariant holds of one element more. -/
def eachPost (I : List Nat → World → Prop) (xs : List Nat) (W : World) : Exit → Act → World → Prop := fun e _ W' => e = .normal ∧ KeepsOthers W W' ∧ I xs W'
set_option maxHeartbeats 1000000 in
theorem each_loopB {n : Nat} {g : Operand} {p : Tmp} {assign body : Code} {Q : Exit → Act → World → Prop} {a : Act} {w : World}
    (s : Nat) (hs : s < 2 ^ 24) (hg : a.eval g = .func (.func 68) #[.int .u64 s] #[]) (B : Nat)
    (I : List Nat → World → Prop) (hI : OwnFrom w.heap.size I) (hT : ∀ pre W, I pre W → TabZ B W) (h0 : I [] w) (a₁ : Nat → Act)
    (hassign : ∀ (l x : Nat) (W : World) (K : Act → World → Prop), K (a₁ x) W →
      assign.wpIn (Fence.wide.inRound l) (n - 1 - 1) Tryz.prog (Exit.then K (fun _ _ _ => False)) { tmps := a.tmps.setIfInBounds p (.int .i64 (x : Nat)), defers := [] } W)
    (hbody : ∀ (l : Nat) (pre : List Nat) (x : Nat) (W : World), x < 24 → s.testBit x = true → pre.length < 24 → I pre W →
      body.wpIn (Fence.wide.inRound l) (n - 1 - 1) Tryz.prog (eachPost I (pre ++ [x]) W) (a₁ x) W)
    (hdone : ∀ (D : Nat) (W : World), w.heap.size ≤ D → I (bitsN s) W → W.heap[D]? = some (.deferred (some [])) →
      Q .normal { a with defers := { target := .collected D, args := #[] } :: a.defers } W) :
    (Code.rangeFunc g #[p] assign body).wpIn Fence.wide n Tryz.prog Q a w := by
  refine wpIn_rangeFunc ?_
  intro fn hfn
  -- the statement's own block of deferred calls, and the loop's record behind it
  generalize hD : w.heap.size = D at *
  let lp : LoopState → Loop := fun st => { state := st, pending := none, fn := fn, tmps := a.tmps, params := #[p], assign := assign, body := body, defers := D }
  have elp : ∀ st, lp st = { state := st, pending := none, fn := fn, tmps := a.tmps, params := #[p], assign := assign, body := body, defers := D } := fun _ => rfl
  let V := (w.alloc (.deferred (some []))).alloc (.loop (lp .ready))
  have vL : V.heap[D + 1]? = some (.loop (lp .ready)) := by
    have h := World.alloc_heap_new (w.alloc (.deferred (some []))) (.loop (lp .ready))
    rwa [World.size_alloc, hD] at h
  have vD : V.heap[D]? = some (.deferred (some [])) := by
    have h := World.alloc_heap_new w (.deferred (some []))
    rw [hD] at h
    exact (Below.heap_alloc _ _ _ (by simp; omega)).trans h
  have vI : I [] V := hI.alloc _ (hI.alloc _ h0)
  have henter : (Instr.enterLoop fn a.tmps #[p] assign body Fence.wide.round).run Tryz.prog w = .ok (D + 1, [{ target := .collected D, args := #[] }]) V := by
    have h := run_enterLoop_outer (P := Tryz.prog) (w := w) fn a.tmps #[p] assign body
    rw [hD] at h
    exact h
  have eg := enters_of (P := Tryz.prog) Tryz.func68 (by kernel_rfl) rfl
  refine ⟨D + 1, [{ target := .collected D, args := #[] }], V, { target := .fn (.func 68) #[], args := #[.int .u64 s, .func (.yield (D + 1)) #[] #[]] }, V, 68,
    #[.int .u64 s, .func (.yield (D + 1)) #[] #[]], V, henter, ?_, fun _ _ => trivial, ?_, fun h => (by simp [Fence.wide] at h), ?_⟩
  · simp only [resolve, hg]
    simp [go_sem]
  · simp [invoke, go_sem, eg _ _]
  -- what holds between two rounds: the caller's invariant, the record ready, the block as it was laid
  refine (each_in (n - 1) s hs B (D + 1) (fun pre W => I pre W ∧ W.heap[D + 1]? = some (.loop (lp .ready)) ∧ W.heap[D]? = some (.deferred (some [])))
    (fun pre W h => hT pre W h.1) ?round V (And.intro vI (And.intro vL vD))).mono ?done
  case round =>
    rintro pre x W ⟨hi, hl, hk⟩ hx hbt hpl
    have hin : D + 1 < W.heap.size := (Array.getElem?_eq_some_iff.1 hl).1
    have hy := run_yield (P := Tryz.prog) (args := #[Value.int .i64 (x : Nat)]) hl (by rw [elp]; rfl)
    have hy2 : (Instr.yield (D + 1) #[Value.int .i64 (x : Nat)]).run Tryz.prog W = .ok (.round (D + 1) fn (a.tmps.setIfInBounds p (.int .i64 (x : Nat))) assign body) W := by
      rw [hy, elp]; simp
    refine ⟨fn, _, assign, body, hy2, roundIn_of_wpIn hfn ?_⟩
    refine hassign (D + 1) x W _ ⟨_, run_beginRound hl (by rw [elp]), ?_⟩
    -- the record is busy: the body
    obtain ⟨U, hU⟩ : ∃ U, W.putObj (D + 1) (.loop { lp .ready with state := .busy }) = U := ⟨_, rfl⟩
    have uI : I pre U := by rw [← hU]; exact hI.putObj _ hi (by omega) hl rfl
    have uL : U.heap[D + 1]? = some (.loop { lp .ready with state := .busy }) := by rw [← hU]; exact World.putObj_heap_same hin
    have uD : U.heap[D]? = some (.deferred (some [])) := by rw [← hU]; exact (World.putObj_heap_other (by omega)).trans hk
    rw [hU]
    refine wpIn_mono (hbody _ pre x U hx hbt hpl uI) ?_
    rintro e a3 W3 ⟨rfl, hkeep, hi3⟩
    have l3 := hkeep.same _ _ uL rfl
    have d3 := hkeep.same _ _ uD rfl
    have hend := run_endRound (P := Tryz.prog) none l3
    have hin3 : D + 1 < W3.heap.size := (Array.getElem?_eq_some_iff.1 l3).1
    refine ⟨_, _, hend, rfl, hI.putObj _ hi3 (by omega) l3 rfl, ?_, (World.putObj_heap_other (by omega)).trans d3⟩
    exact World.putObj_heap_same hin3
  case done =>
    rintro e W2 ⟨⟨v, rfl⟩, hi, hl, hk⟩
    have hend := run_endLoop (P := Tryz.prog) hl (by rw [elp]; simp)
    exact ⟨none, _, hend, hdone D _ (by omega) (hI.putObj _ hi (by omega) hl rfl) ((World.putObj_heap_other (by omega)).trans hk)⟩
theorem each_loop {n : Nat} {g : Operand} {p : Tmp} {assign body : Code} {Q : Exit → Act → World → Prop} {a : Act} {w : World}
    (s : Nat) (hs : s < 2 ^ 24) (hg : a.eval g = .func (.func 68) #[.int .u64 s] #[]) (B : Nat)
    (I : List Nat → World → Prop) (hI : OwnFrom w.heap.size I) (hT : ∀ pre W, I pre W → TabZ B W) (h0 : I [] w) (a₁ : Nat → Act)
    (hassign : ∀ (l x : Nat) (W : World) (K : Act → World → Prop), K (a₁ x) W →
      assign.wpIn (Fence.wide.inRound l) (n - 1 - 1) Tryz.prog (Exit.then K (fun _ _ _ => False)) { tmps := a.tmps.setIfInBounds p (.int .i64 (x : Nat)), defers := [] } W)
    (hbody : ∀ (l : Nat) (pre : List Nat) (x : Nat) (W : World), x < 24 → pre.length < 24 → I pre W →
      body.wpIn (Fence.wide.inRound l) (n - 1 - 1) Tryz.prog (eachPost I (pre ++ [x]) W) (a₁ x) W)
    (hdone : ∀ (D : Nat) (W : World), w.heap.size ≤ D → I (bitsN s) W → W.heap[D]? = some (.deferred (some [])) →
      Q .normal { a with defers := { target := .collected D, args := #[] } :: a.defers } W) :
    (Code.rangeFunc g #[p] assign body).wpIn Fence.wide n Tryz.prog Q a w :=
  each_loopB s hs hg B I hI hT h0 a₁ hassign (fun l pre x W hx _ hpl hi => hbody l pre x W hx hpl hi) hdone
theorem each_loopP {n : Nat} {g : Operand} {p : Tmp} {assign body : Code} {Q : Exit → Act → World → Prop} {a : Act} {w : World}
    (s : Nat) (hs : s < 2 ^ 24) (hg : a.eval g = .func (.func 68) #[.int .u64 s] #[]) (B : Nat)
    (I : List Nat → World → Prop) (hI : OwnFrom w.heap.size I) (hT : ∀ pre W, I pre W → TabZ B W) (h0 : I [] w) (a₁ : Nat → Act)
    (hassign : ∀ (l x : Nat) (W : World) (K : Act → World → Prop), K (a₁ x) W →
      assign.wpIn (Fence.wide.inRound l) (n - 1 - 1) Tryz.prog (Exit.then K (fun _ _ _ => False)) { tmps := a.tmps.setIfInBounds p (.int .i64 (x : Nat)), defers := [] } W)
    (hbody : ∀ (l : Nat) (pre : List Nat) (x : Nat) (W : World), (∀ z ∈ pre, s.testBit z = true) → s.testBit x = true → pre.length < 24 → I pre W →
      body.wpIn (Fence.wide.inRound l) (n - 1 - 1) Tryz.prog (eachPost I (pre ++ [x]) W) (a₁ x) W)
    (hdone : ∀ (D : Nat) (W : World), w.heap.size ≤ D → I (bitsN s) W → W.heap[D]? = some (.deferred (some [])) →
      Q .normal { a with defers := { target := .collected D, args := #[] } :: a.defers } W) :
    (Code.rangeFunc g #[p] assign body).wpIn Fence.wide n Tryz.prog Q a w :=
  each_loopB s hs hg B (fun pre W => I pre W ∧ ∀ z ∈ pre, s.testBit z = true) (OwnFrom.and hI (fun _ _ _ _ hs _ _ => hs)) (fun pre W h => hT pre W h.1) ⟨h0, fun z hz => by cases hz⟩ a₁ hassign
    (fun l pre x W _ hb hpl hi => wpIn_mono (hbody l pre x W hi.2 hb hpl hi.1) (fun _ _ _ ⟨h1, h2, h3⟩ => ⟨h1, h2, h3, fun z hz => by
      rcases List.mem_append.1 hz with h | h
      · exact hi.2 z h
      · rw [List.mem_singleton.1 h]; exact hb⟩)) (fun D W hD hi hk => hdone D W hD hi.1 hk)
end Go.Proofs.YtaacofbmbpkeoaaGreatDoor

namespace Go.Proofs.YtaacofbmbpkeoaaGreatDoor
open Go.RowKit Go.Shelf
section
variable {P : Program} {Q : Exit → Act → World → Prop} {l n : Nat}
theorem oper_round {o : Oper} {a : Act} {w : World} {K K' : Act → World → Prop} (hd : ∀ c, o.op ≠ .defer c) (h : o.wp P a w K Q) (hK : ∀ a w, K a w → K' a w) :
    o.wpIn (Fence.wide.inRound l) n P a w K' Q := by
  unfold Oper.wp at h
  unfold Oper.wpIn
  refine ⟨fun _ _ => trivial, ?_⟩
  rw [Oper.semAt_eq _ _ _ hd]
  generalize (execOp a.eval o).run P w = r at h
  have hno : (Fence.wide.inRound l).depth.isSome = true → 1 ≤ n := fun e => by simp [Fence.wide] at e
  cases r with
  | ok x w' =>
    cases x with
    | value v => exact hK _ _ h
    | skip => exact hK _ _ h
    | defer d => exact hK _ _ h
    | enter f args =>
      refine ⟨hno, CallsIn.inRound l (callsIn_wide.2 (Calls.mono h ?_))⟩
      intro e w'' he
      cases e with
      | returned v => exact hK _ _ he
      | panicked c => exact he
      | outgrown => exact he
    | row row args =>
      refine ⟨hno, fun c cs _ => ?_⟩
      obtain ⟨v, w'', r, s⟩ := h c cs
      exact ⟨v, w'', hK _ _ r, stepsIn_wide.2 s⟩
    | _ => exact (h : False).elim
  | halt x w' =>
    cases x with
    | panic v => exact h
    | _ => exact (h : False).elim
theorem any_round {md : Region.Mode} {ops : Array Oper} (hd : ∀ (i : Nat) (o : Oper), ops[i]? = some o → ∀ c, o.op ≠ .defer c) (hQ : ¬ LetsOut Q) :
    ∀ (fuel : Nat) (listed : Array Bool) (a : Act) (w : World), wpAny P md ops Q fuel listed a w → wpAnyIn (Fence.wide.inRound l) n P md ops Q fuel listed a w
  | 0, _, _, _, h => h
  | fuel + 1, listed, a, w, h => ⟨h.1, fun i hi => by
    have h2 := h.2 i hi
    unfold wpOp at h2
    unfold wpOpIn
    cases ho : ops[i]? with
    | none => rw [ho] at h2; exact any_round hd hQ fuel _ _ _ h2
    | some o =>
      rw [ho] at h2
      simp only at h2 ⊢
      split
      · next hw =>
        rw [if_pos hw] at h2
        rcases h2 with h3 | h3
        · exact oper_round (hd i o ho) h3 (fun a w h4 => any_round hd hQ fuel _ _ _ h4)
        · exact absurd h3.2 hQ
      · next hw =>
        rw [if_neg hw] at h2
        exact ⟨fun _ _ => trivial, any_round hd hQ fuel _ _ _ h2⟩⟩
theorem region_round {id : Nat} {ops : Array Oper} {S : World → Prop} {a : Act} {w : World} (hm : P.follows .mixedOrders = true) (hd : ∀ (i : Nat) (o : Oper), ops[i]? = some o → ∀ c, o.op ≠ .defer c) (hQ : ¬ LetsOut Q) (hS : S w.drew)
    (h : S w.drew → wpAnyH P .any ops Q S ops.size (Array.replicate ops.size false) a w.drew) : (Code.region id ops true).wpIn (Fence.wide.inRound l) n P Q a w :=
  wpIn_region_any hm (any_round hd hQ _ _ _ _ (wpAny_of_held _ _ _ _ (h hS)))
end
end Go.Proofs.YtaacofbmbpkeoaaGreatDoor

namespace Go.Proofs.YtaacofbmbpkeoaaGreatDoor
open Go.RowKit
set_option maxRecDepth 1000000
theorem ord0 {l : List Int} : (0 < l.length → l.getD 0 0 = l.getD 0 1) ∧ (l.length ≤ 0 → l.getD 0 1 = 1) := by
  cases l <;> simp
theorem ord1 {l : List Int} : (1 < l.length → l.getD 1 0 = l.getD 1 1) ∧ (l.length ≤ 1 → l.getD 1 1 = 1) := by
  match l with
  | [] => simp
  | [_] => simp
  | _ :: _ :: _ => simp
theorem ord2 {l : List Int} : (2 < l.length → l.getD 2 0 = l.getD 2 1) ∧ (l.length ≤ 2 → l.getD 2 1 = 1) := by
  match l with
  | [] => simp
  | [_] => simp
  | [_, _] => simp
  | _ :: _ :: _ :: _ => simp
theorem PK_1 {l : List Int} (h : 1 ≤ l.length) : PK l 1 = l.getD 0 1 := by
  match l, h with
  | _ :: _, _ => simp [PK, prodI]
theorem PK_2 {l : List Int} (h : 2 ≤ l.length) : PK l 2 = l.getD 0 1 * l.getD 1 1 := by
  match l, h with
  | _ :: _ :: _, _ => simp [PK, prodI]
/-- A value by its three places. -/
theorem val_tri {l : List Int} (hl : l.length ≤ 3) (f : Nat → Int) (f0 f1 f2 : Int) (h0 : 0 < l.length → f 0 = f0) (h1 : 1 < l.length → f 1 = f1) (h2 : 2 < l.length → f 2 = f2)
    (z0 : l.length ≤ 0 → f0 = 0) (z1 : l.length ≤ 1 → f1 = 0) (z2 : l.length ≤ 2 → f2 = 0) : valK l f l.length = f0 + l.getD 0 1 * f1 + l.getD 0 1 * l.getD 1 1 * f2 := by
  match l, hl with
  | [], _ => simp at *; simp [valK, z0, z1, z2]
  | [a], _ => simp at *; simp [valK, PK, prodI, h0, z1, z2]
  | [a, b], _ => simp at *; simp [valK, PK, prodI, h0, h1, z2, Int.mul_comm]
  | [a, b, c], _ => simp at *; simp [valK, PK, prodI, h0, h1, h2, Int.mul_comm]
  | _ :: _ :: _ :: _ :: _, h => simp at h
theorem tdig0 {l : List Int} (x : Int) (h : 0 < l.length) : dig l x 0 = x % l.getD 0 1 := by
  unfold dig; rw [PK_zero, Int.ediv_one, ord0.1 h]
theorem tdig1 {l : List Int} (x : Int) (h : 1 < l.length) : dig l x 1 = x / l.getD 0 1 % l.getD 1 1 := by
  unfold dig; rw [PK_1 (by omega), ord1.1 h]
theorem tdig2 {l : List Int} (x : Int) (h : 2 < l.length) (hp : 0 ≤ l.getD 0 1) : dig l x 2 = x / l.getD 0 1 / l.getD 1 1 % l.getD 2 1 := by
  unfold dig; rw [PK_2 (by omega), ord2.1 h, Int.ediv_ediv_of_nonneg hp]
theorem one_mod {c x : Int} (h : c = 1) : x % c = 0 := by rw [h, Int.emod_one]
theorem add_tri {l : List Int} (hl : l.length ≤ 3) (x y : Int) (hp : 0 ≤ l.getD 0 1) : addN l x y =
    (x % l.getD 0 1 + y % l.getD 0 1) % l.getD 0 1 + l.getD 0 1 * ((x / l.getD 0 1 % l.getD 1 1 + y / l.getD 0 1 % l.getD 1 1) % l.getD 1 1) + l.getD 0 1 * l.getD 1 1 * ((x / l.getD 0 1 / l.getD 1 1 % l.getD 2 1 + y / l.getD 0 1 / l.getD 1 1 % l.getD 2 1) % l.getD 2 1) :=
  val_tri hl _ _ _ _ (fun h => by rw [sdig_eq, tdig0 x h, tdig0 y h, ord0.1 h]) (fun h => by rw [sdig_eq, tdig1 x h, tdig1 y h, ord1.1 h]) (fun h => by rw [sdig_eq, tdig2 x h hp, tdig2 y h hp, ord2.1 h])
    (fun h => one_mod (ord0.2 h)) (fun h => one_mod (ord1.2 h)) (fun h => one_mod (ord2.2 h))
theorem mul_tri {l : List Int} (hl : l.length ≤ 3) (x k : Int) (hp : 0 ≤ l.getD 0 1) : mulN l x k =
    x % l.getD 0 1 * k % l.getD 0 1 + l.getD 0 1 * (x / l.getD 0 1 % l.getD 1 1 * k % l.getD 1 1) + l.getD 0 1 * l.getD 1 1 * (x / l.getD 0 1 / l.getD 1 1 % l.getD 2 1 * k % l.getD 2 1) :=
  val_tri hl _ _ _ _ (fun h => by unfold mulF; rw [tdig0 x h, ord0.1 h]) (fun h => by unfold mulF; rw [tdig1 x h, ord1.1 h]) (fun h => by unfold mulF; rw [tdig2 x h hp, ord2.1 h])
    (fun h => one_mod (ord0.2 h)) (fun h => one_mod (ord1.2 h)) (fun h => one_mod (ord2.2 h))
theorem emod_b {a c : Int} (h : 1 ≤ c) : 0 ≤ a % c ∧ a % c < c := ⟨Int.emod_nonneg _ (by omega), Int.emod_lt_of_pos _ (by omega)⟩
/-- What placesIn answers. -/
def InPost (l : List Int) (x : Int) (w : World) (e : Ending) (w' : World) : Prop :=
  ∃ p q r u v s, e = .returned (.tuple #[tV p q r, tV u v s, .bool (isE l x)]) ∧ (isE l x = true → p = l.getD 0 1 ∧ q = l.getD 1 1 ∧ r = l.getD 2 1 ∧ u = x % l.getD 0 1 ∧ v = x / l.getD 0 1 % l.getD 1 1 ∧ s = x / l.getD 0 1 / l.getD 1 1 % l.getD 2 1) ∧ Below w.heap.size w w'
theorem iIn (w : World) (a : Option Addr) (l : List Int) (n cap : Nat) (x : Int) (hn : n = l.length) (hm : n ≤ 9223372036854775807) (hi : Ints w a l) :
    Calls Tryz.prog 93 #[.agg #[.slice a n cap], .int .i64 x] w (InPost l x w) := by
  unfold InPost
  cases hx : isE l x with
  | false => exact (iIn_no w a l n cap x hn hm hi hx).mono fun e w' ⟨he, hb⟩ => ⟨0, 0, 0, 0, 0, 0, he, (fun h => by cases h), hb⟩
  | true => exact (iIn_yes w a l n cap x hn hm hi hx).mono fun e w' ⟨he, hb⟩ => ⟨_, _, _, _, _, _, he, fun _ => ⟨rfl, rfl, rfl, rfl, rfl, rfl⟩, hb⟩
end Go.Proofs.YtaacofbmbpkeoaaGreatDoor

namespace Go.Proofs.YtaacofbmbpkeoaaGreatDoor
open Go.RowKit
set_option maxRecDepth 1000000
theorem prod_bnd {t c k : Int} (h0 : 0 ≤ t) (h1 : t < c) (hc : c ≤ 24) (k1 : -100 ≤ k) (k2 : k ≤ 100) : -2300 ≤ t * k ∧ t * k ≤ 2300 := by
  have a1 : t * k ≤ t * 100 := Int.mul_le_mul_of_nonneg_left k2 h0
  have a2 : t * -100 ≤ t * k := Int.mul_le_mul_of_nonneg_left k1 h0
  omega
theorem tmod_bnd (a : Int) {c : Int} (h : 1 ≤ c) : -c < a.tmod c ∧ a.tmod c < c := by
  have := Int.tmod_lt_of_pos a (show 0 < c by omega)
  have h2 := Int.tmod_lt_of_pos (-a) (show 0 < c by omega)
  rw [Int.neg_tmod] at h2
  omega
theorem tmod_fix (a c : Int) : a.tmod c % c = a % c := by
  have h1 := Int.mul_tdiv_add_tmod a c
  calc a.tmod c % c = (c * a.tdiv c + a.tmod c) % c := by rw [Int.mul_add_emod_self_left]
    _ = a % c := by rw [h1]
theorem iIsMul (w : World) (k : Int) (r : Bool) (h : r = (decide (-100 ≤ k) && decide (k ≤ 100))) :
    Calls Tryz.prog 105 #[.int .i64 k] w fun e w' => e = .returned (.bool r) ∧ w = w' := by
  subst h
  by_cases h1 : -100 ≤ k <;> by_cases h2 : k ≤ 100 <;> simp only [h1, h2, decide_true, decide_false, Bool.and_true, Bool.and_false]
  all_goals
    go_enter Tryz.func105, Tryz.ntmps105
    go_wp2
    go_ret
    exact ⟨rfl, rfl⟩
theorem iMulti (w : World) (p q r u v s k : Int) (h : Tri p q r) (ha : 0 ≤ u ∧ u < p) (hb : 0 ≤ v ∧ v < q) (hc : 0 ≤ s ∧ s < r) (k1 : -100 ≤ k) (k2 : k ≤ 100) :
    Calls Tryz.prog 88 #[tV p q r, tV u v s, .int .i64 k] w fun e w' => e = .returned (tV (u * k % p) (v * k % q) (s * k % r)) ∧ Below w.heap.size w w' := by
  obtain ⟨p1, p2, q1, q2, r1, r2, h7, h8, h9, h10⟩ := h
  obtain ⟨a1, a2⟩ := prod_bnd ha.1 ha.2 p2 k1 k2
  obtain ⟨b1, b2⟩ := prod_bnd hb.1 hb.2 q2 k1 k2
  obtain ⟨d1, d2⟩ := prod_bnd hc.1 hc.2 r2 k1 k2
  obtain ⟨a3, a4⟩ := tmod_bnd (u * k) p1
  obtain ⟨b3, b4⟩ := tmod_bnd (v * k) q1
  obtain ⟨d3, d4⟩ := tmod_bnd (s * k) r1
  have X0 := ix0 p q r
  have X1 := ix1 p q r
  have X2 := ix2 p q r
  rw [← tmod_fix (u * k), ← tmod_fix (v * k), ← tmod_fix (s * k)]
  go_enter Tryz.func88, Tryz.ntmps88
  go_wp2
  refine wp_loop_rounds 4 ?_
  rw [rounds_succ]; go_wp2
  rw [rounds_succ]; go_wp2
  rw [rounds_succ]; go_wp2
  rw [rounds_succ]; go_wp2
  refine bodyPost_ret (v := tV ((u * k).tmod p % p) ((v * k).tmod q % q) ((s * k).tmod r % r)) (by simp [results, Tryz.results88, go_sem]) rfl ⟨rfl, ?_⟩
  first
    | exact Joins.below_alloc3 w _ _ _
    | exact Joins.below_alloc2 w _ _
    | exact Joins.below_alloc1 w _
end Go.Proofs.YtaacofbmbpkeoaaGreatDoor

namespace Go.Proofs.YtaacofbmbpkeoaaGreatDoor
open Go.RowKit Go.Shelf
attribute [local go_sem] Oper.semAt_some
set_option maxRecDepth 1000000
/-- A block of cells stays as it is where blocks that are no cells turn. -/
theorem cells_own {β : Type} (b : Nat) (f : β → Array Value) (t : TypeId) : Own (fun (s : β) W => W.heap[b]? = some (.cells (f s) t (0, 0))) := fun s W W' row hs hg hr =>
  (hg.block b (Array.getElem?_eq_some_iff.1 hs).1 (fun e => by obtain ⟨o, ho, hc⟩ := hr b e.symm; rw [hs] at ho; cases ho; cases hc)).trans hs
def isDef : Op → Bool
  | .defer _ => true
  | _ => false
theorem no_defer {ops : Array Oper} (h : (ops.toList.all fun o => !isDef o.op) = true) : ∀ (i : Nat) (o : Oper), ops[i]? = some o → ∀ c, o.op ≠ .defer c := fun i o ho c e => by
  have h1 := List.all_eq_true.1 h o (by rw [← Array.getElem?_toList] at ho; exact List.mem_of_getElem? ho)
  rw [e] at h1
  cases h1
theorem keeps_below {W W' : World} (h : Below W.drew.heap.size W.drew W') : KeepsOthers W W' := ⟨h.size, fun k _ ho _ => (h.block k (Array.getElem?_eq_some_iff.1 ho).1).trans ho⟩
end Go.Proofs.YtaacofbmbpkeoaaGreatDoor

namespace Go.Proofs.YtaacofbmbpkeoaaGreatDoor
theorem mem_bits {m : Nat} (h : m < 2 ^ 24) (x : Nat) : x ∈ bitsN m ↔ m.testBit x = true := by
  constructor
  · exact fun hx => (upK_mem hx).2
  · intro hb
    unfold bitsN upK
    rw [List.mem_filter, List.mem_range]
    refine ⟨?_, hb⟩
    rcases Nat.lt_or_ge x 24 with h1 | h1
    · exact h1
    · rw [bit_no h x h1] at hb; cases hb
theorem bits_nodup (m : Nat) : (bitsN m).Nodup := by
  unfold bitsN upK
  exact List.Pairwise.filter _ List.nodup_range
theorem orF_bit (f : Nat → Int) (L : List Nat) (k : Nat) : (orF f L).testBit k = true ↔ ∃ x ∈ L, (f x).toNat = k := by
  have : ∀ (L : List Nat) (s : Nat), (L.foldl (fun s x => s ||| 2 ^ (f x).toNat) s).testBit k = true ↔ s.testBit k = true ∨ ∃ x ∈ L, (f x).toNat = k := by
    intro L
    induction L with
    | nil => intro s; simp
    | cons x t ih =>
      intro s
      rw [List.foldl_cons, ih, Nat.testBit_or, Nat.testBit_two_pow, Bool.or_eq_true, decide_eq_true_eq]
      simp only [List.mem_cons]
      constructor
      · rintro ((h | h) | ⟨y, hy, h⟩)
        · exact .inl h
        · exact .inr ⟨x, .inl rfl, h⟩
        · exact .inr ⟨y, .inr hy, h⟩
      · rintro (h | ⟨y, rfl | hy, h⟩)
        · exact .inl (.inl h)
        · exact .inl (.inr h)
        · exact .inr ⟨y, hy, h⟩
  unfold orF
  rw [this L 0]; simp
/-- The number of a set that is moved by f lies within the group, if f does. -/
theorem orF_set {l : List Int} (hg : grpB l = true) (f : Nat → Int) (L : List Nat) (hf : ∀ x, 0 ≤ f x ∧ f x < prodI l) : isS l ((orF f L : Nat) : Int) = true := by
  have hlt := orF_lt f L (prodI l).toNat (fun x _ => by have := hf x; omega)
  simp only [isS, hg, fullN_nat, Bool.true_and, Bool.and_eq_true, decide_eq_true_eq]
  generalize orF f L = A at *
  generalize 2 ^ (prodI l).toNat = N at *
  omega
end Go.Proofs.YtaacofbmbpkeoaaGreatDoor
