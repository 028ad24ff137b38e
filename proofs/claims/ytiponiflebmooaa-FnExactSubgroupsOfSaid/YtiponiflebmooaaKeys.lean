/- The library's iterator over the keys of a map of sets: it yields each key once, in whatever order. -/
import Derived.Test.YtiponiflebmooaaEachL
import Derived.RangeFuncSeq
import Derived.Sort.MapsRangeIn
import Derived.Maps.RangeWalk
namespace Go.Proofs.Ytiponiflebmooaa
open Go.RowKit Go.Shelf Go.Maps
attribute [local go_sem] Oper.semAt_some
set_option maxRecDepth 1000000
abbrev TK : TypeId := 50
abbrev TM : TypeId := 51
/-- How the map's elements read. -/
noncomputable abbrev RB : Value → Option (DataW Unit × List MemPlace) := plainElem Try.prog 4
theorem keyedK : Keyed Try.prog 50 := int_keyed Try.underlying50
def kL (x : Nat) : Lit := .int .u64 ((x : Nat) : Int)
theorem plainElem_bool_inv {v : Value} {y : DataW Unit × List MemPlace} (h : RB v = some y) : ∃ b, v = .bool b ∧ y = (.lit (.bool b), []) := by
  unfold RB plainElem at h
  rw [Try.underlying4] at h
  cases v <;> simp at h
  exact ⟨_, rfl, h.symm⟩
theorem key_inv {key : Value} {kl : Lit} (h : keyOf Try.prog 50 key = some kl) : ∃ x : Nat, key = .int .u64 ((x : Nat) : Int) ∧ kl = kL x ∧ x < 18446744073709551616 := by
  obtain ⟨a, rfl, rfl, hw⟩ := Maps.keyOf_int_inv Try.underlying50 h
  have e1 : IntKind.u64.min = 0 := rfl
  have e2 : IntKind.u64.max = 18446744073709551615 := rfl
  simp only [Lit.wf, e1, e2, Bool.and_eq_true, decide_eq_true_eq] at hw
  obtain ⟨x, rfl⟩ := Int.eq_ofNat_of_zero_le (show 0 ≤ a by omega)
  exact ⟨x, rfl, rfl, by omega⟩
theorem same_kL (x y : Nat) : (kL y).sameKey (kL x) = decide (y = x) := by
  by_cases e : y = x
  · subst e; simp [kL, Lit.sameKey]
  · have : ((y : Nat) : Int) ≠ ((x : Nat) : Int) := by omega
    simp [kL, Lit.sameKey, this, e]
theorem ownsMap_keys {w : World} {b n : Nat} {D : DataW Unit} (h : w.ownsMap Try.prog 50 RB b n D) {kl : Lit} (hk : has D kl = true) : ∃ x : Nat, kl = kL x := by
  obtain ⟨es, clock, _, F, _, rfl⟩ := h
  rw [has_eq, List.any_eq_true] at hk
  obtain ⟨p, hp, hs⟩ := hk
  obtain ⟨v, hv⟩ := fit_keys F p (mem_sorted.1 hp)
  obtain ⟨x, _, e, _⟩ := key_inv hv
  refine ⟨x, ?_⟩
  rw [e] at hs
  cases kl <;> simp [kL, Lit.sameKey] at hs
  obtain ⟨rfl, rfl⟩ := hs
  rfl
/-- What has been met so far of the map's keys. -/
structure Met (D : DataW Unit) (left : Lit → Bool) (ss : List Nat) : Prop where
  mem : ∀ x : Nat, x ∈ ss ↔ has D (kL x) = true ∧ left (kL x) = false
  nodup : ss.Nodup
  sub : ∀ x : Nat, left (kL x) = true → has D (kL x) = true
theorem Met.start (D : DataW Unit) : Met D (has D) [] := ⟨fun x => ⟨fun h => (by cases h), fun h => (by rw [h.1] at h; cases h.2)⟩, List.nodup_nil, fun _ h => h⟩
theorem Met.step {D : DataW Unit} {left : Lit → Bool} {ss : List Nat} (h : Met D left ss) {x : Nat} (hl : left (kL x) = true) : Met D (fun z => left z && !z.sameKey (kL x)) (ss ++ [x]) := by
  refine ⟨fun y => ?_, ?_, fun y hy => h.sub y (by simp only [Bool.and_eq_true] at hy; exact hy.1)⟩
  · rw [List.mem_append, List.mem_singleton, h.mem, same_kL]
    by_cases e : y = x
    · subst e
      simp [hl, h.sub y hl]
    · simp [e]
  · rw [List.nodup_append]
    refine ⟨h.nodup, by simp, ?_⟩
    intro a ha b hb e
    rw [List.mem_singleton] at hb
    subst hb e
    have := ((h.mem a).1 ha).2
    rw [hl] at this
    cases this
theorem iter_cells {w : World} {b r n : Nat} {D : DataW Unit} {left : Lit → Bool} {cnt : Nat} (h : w.ranges Try.prog 50 RB b r n D left cnt) : ∃ o : Obj, w.heap[r]? = some o ∧ o.isCells = false := by
  obtain ⟨es, clock, since, seen, c0, _, _, _, _, hr, _⟩ := h
  exact ⟨_, hr, rfl⟩
theorem ranges_others {w w' : World} {b r n : Nat} {D : DataW Unit} {left : Lit → Bool} {cnt : Nat} (h : w.ranges Try.prog 50 RB b r n D left cnt) (hk : KeepsOthers w w') : w'.ranges Try.prog 50 RB b r n D left cnt := by
  obtain ⟨es, clock, since, seen, c0, hb, F, hs, hD, hr, rest⟩ := h
  exact ⟨es, clock, since, seen, c0, hk.same b _ hb rfl, F, hs, hD, hk.same r _ hr rfl, rest⟩
set_option maxHeartbeats 2000000 in
theorem keys_in (n : Nat) (p b nn l : Nat) (D0 : DataW Unit) (J : List Nat → World → Prop) (W : World) (hp : W.cell? ⟨p, 0, none⟩ = some (.map (some b))) (hown : W.ownsMap Try.prog 50 RB b nn D0)
    (hJ : OwnFrom W.heap.size J)
    (hY : ∀ pre x X, J pre X → has D0 (kL x) = true → pre.length < nn → YieldAt Fence.wide (n - 1) Try.prog l #[.int .u64 ((x : Nat) : Int)] X fun e X' => e = .returned (.bool true) ∧ KeepsOthers X X' ∧ J (pre ++ [x]) X')
    (h0 : J [] W) :
    CallsIn Fence.wide n Try.prog 35 #[.func (.yield l) #[] #[], .pointer (some ⟨p, 0, none⟩)] W fun e W' => (∃ v, e = .returned v) ∧ ∃ ss : List Nat, (∀ x : Nat, x ∈ ss ↔ has D0 (kL x) = true) ∧ ss.Nodup ∧ ss.length ≤ nn ∧ J ss W' := by
  have HY := Lib.hid hY
  have HJ := Lib.hid hJ
  have H0 := Lib.hid h0
  have HOW := Lib.hid hown
  have hsz := hown.size_le
  clear hY hJ h0
  refine callsIn_of_wp Try.func35 rfl trivial ?_ rfl
  simp only [Try.ntmps35, List.size_toArray, List.length_cons, List.length_nil, Nat.reduceAdd, Nat.reduceSub, Array.replicate_succ, Array.replicate_zero, List.push_toArray, List.append_toArray, List.nil_append, List.cons_append]
  gi_wp2_with (first
    | (gi_at_range; refine wpListIn_range_own _ rfl _ 51 rfl 50 4 keyedK Try.underlying51 RB b nn _ rfl hown ?_; intro w0 hrg0 hg0 hs0)
    | gi_in)
  go_frame
  gi_loopw [3] (fun _ wr => ∃ (left : Lit → Bool) (cnt : Nat) (ss : List Nat), wr.ranges Try.prog 50 RB b W.heap.size nn D0 left cnt ∧ Met D0 left ss ∧ ss.length + cnt ≤ nn ∧ J ss wr) (fun _ wr => wr.rangeLeft b W.heap.size)
  case atStart =>
    exact ⟨_, _, [], hrg0, Met.start D0, by simpa using hsz, HJ.out [] W w0 none H0.out hg0 (fun r e => by cases e)⟩
  case round =>
    obtain ⟨left, cnt, ss, hrg, hM, hlen, hJs⟩ := hrel
    have HM := Lib.hid hM
    have HJS := Lib.hid hJs
    have HRG := Lib.hid hrg
    clear hM hJs
    gi_wp2_with (first
      | (gi_at_next; refine wpListIn_next_ranges _ rfl _ rfl 50 keyedK RB (fun x : Nat => Value.int .u64 ((x : Nat) : Int)) id (fun key kl hk => by obtain ⟨x, hx, _⟩ := key_inv hk; exact ⟨x, hx⟩) (fun v _ _ => ⟨v, rfl⟩) b W.heap.size nn _ _ _ rfl hrg ?_ ?_)
      | gi_in)
    · intro hc0 hl0
      gi_wp2
      go_end0
      exact ⟨⟨_, rfl⟩, ss, fun x => ⟨fun h => ((HM.out.mem x).1 h).1, fun h => (HM.out.mem x).2 ⟨h, hl0 _⟩⟩, HM.out.nodup, by omega, HJS.out⟩
    · intro x c kl yd yp w2 cnt2 hkey hlk hv hat hrg2 hlt hg2 hs2 hen
      obtain ⟨x', ex, rfl, hx64⟩ := key_inv hkey
      obtain rfl : x = x' := by
        injection ex with _ e
        omega
      have hJ2 : J ss w2 := HJ.out ss wr w2 (some W.heap.size) HJS.out hg2 (fun r e => by cases e; exact ⟨Nat.le_refl _, iter_cells HRG.out⟩)
      obtain ⟨fn, tmps, assign, body, hy, hR⟩ := HY.out ss x w2 hJ2 (HM.out.sub x hlk) (by omega)
      clear hs2 hJ2
      gi_wp2
      refine ⟨fun h => (by simp [Fence.wide] at h), hR.mono ?_⟩
      rintro e W3 ⟨rfl, hk3, hJ3⟩
      have hrg3 := ranges_others hrg2 hk3
      gi_wp2
      go_roundw
      case rel => exact ⟨_, cnt2, ss ++ [x], hrg3, HM.out.step hlk, by rw [List.length_append, List.length_singleton]; omega, hJ3⟩
      case measure =>
        rw [hrg3.left_eq, HRG.out.left_eq]; exact hlt
end Go.Proofs.Ytiponiflebmooaa
