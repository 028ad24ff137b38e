/- Merged: SetOf ParSPure ParSEq SetMem SetAx. -/
import Derived.Test.YtkejpikhlejmaaaGreatDoorSETB
import Derived.Deep.RegionHeld3
import Derived.Deep.DeepCutAuto
import Derived.Test.YtkejpikhlejmaaaGreatDoorNUMA
import Derived.Test.YtkejpikhlejmaaaGreatDoorFmtS
import Derived.Test.YtkejpikhlejmaaaGreatDoorSETA
import Derived.Test.YtkejpikhlejmaaaGreatDoorGRPA
namespace Go.Proofs.YtkejpikhlejmaaaGreatDoor
open Go.RowKit
set_option maxRecDepth 1000000
/-- The set of the first k of the elements, if they are elements and different. -/
def setS (l p : List Int) : Nat → Option Nat
  | 0 => some 0
  | k + 1 => match setS l p k with
    | none => none
    | some s => if isE l (p.getD k 0) = true then (if s.testBit (p.getD k 0).toNat = true then none else some (s + 2 ^ (p.getD k 0).toNat)) else none
theorem setS_none {l p : List Int} {k : Nat} (h : setS l p k = none) : ∀ m, setS l p (k + m) = none
  | 0 => h
  | m + 1 => by
    show (match setS l p (k + m) with | none => none | some s => _) = none
    rw [setS_none h m]
theorem setS_out {l p : List Int} {k n : Nat} (h : setS l p (k + 1) = none) (hk : k < n) : setS l p n = none := by
  have := setS_none h (n - (k + 1))
  rwa [show k + 1 + (n - (k + 1)) = n by omega] at this
theorem setS_bad {l p : List Int} {k s : Nat} (h : setS l p k = some s) (he : isE l (p.getD k 0) = false) : setS l p (k + 1) = none := by
  simp only [setS, h]; rw [if_neg (by rw [he]; decide)]
theorem setS_dup {l p : List Int} {k s : Nat} (h : setS l p k = some s) (he : isE l (p.getD k 0) = true) (hb : s.testBit (p.getD k 0).toNat = true) : setS l p (k + 1) = none := by
  simp only [setS, h]; rw [if_pos he, if_pos hb]
theorem setS_add {l p : List Int} {k s : Nat} (h : setS l p k = some s) (he : isE l (p.getD k 0) = true) (hb : s.testBit (p.getD k 0).toNat = false) : setS l p (k + 1) = some (s + 2 ^ (p.getD k 0).toNat) := by
  simp only [setS, h]; rw [if_pos he, if_neg (by rw [hb]; decide)]
theorem keepDs {w w' : World} {p : Addr} {v : Value} (hb : Below w.heap.size w w') (h : w.cell? p = some v) : w'.cell? p = some v := keepC hb (World.block_lt_of_cell? w _ h) h
theorem add_or {s x : Nat} (h : s.testBit x = false) : s + 2 ^ x = s ||| 2 ^ x := by
  have h1 : s = 2 ^ (x + 1) * (s / 2 ^ (x + 1)) + s % 2 ^ (x + 1) := (Nat.div_add_mod s _).symm
  have h2 : s % 2 ^ (x + 1) < 2 ^ x := by
    have hm := Nat.mod_lt s (Nat.two_pow_pos (x + 1))
    rcases Nat.lt_or_ge (s % 2 ^ (x + 1)) (2 ^ x) with h3 | h3
    · exact h3
    · exfalso
      have h4 : (s % 2 ^ (x + 1)).testBit x = true := by
        rw [Nat.testBit_eq_decide_div_mod_eq]
        have : s % 2 ^ (x + 1) / 2 ^ x = 1 := by
          apply Nat.div_eq_of_lt_le
          · simpa using h3
          · rw [Nat.pow_succ] at hm; omega
        rw [this]; rfl
      rw [Nat.testBit_mod_two_pow, h] at h4
      simp at h4
  generalize s / 2 ^ (x + 1) = q at h1
  generalize s % 2 ^ (x + 1) = r at h1 h2
  subst h1
  have hr : r < 2 ^ (x + 1) := by rw [Nat.pow_succ]; omega
  have e1 : 2 ^ x * 1 + r = 2 ^ x * 1 ||| r := Nat.two_pow_add_eq_or_of_lt h2 1
  rw [Nat.mul_one] at e1
  have hr2 : 2 ^ x + r < 2 ^ (x + 1) := by rw [Nat.pow_succ]; omega
  have e2 : (2 ^ (x + 1) * q + r) ||| 2 ^ x = 2 ^ (x + 1) * q + (2 ^ x + r) := by
    rw [Nat.two_pow_add_eq_or_of_lt hr q, Nat.or_assoc, Nat.or_comm r, ← e1, ← Nat.two_pow_add_eq_or_of_lt hr2 q]
  rw [e2]
  omega
theorem setS_bnd {l p : List Int} : ∀ {k s : Nat}, setS l p k = some s → s < 2 ^ 24
  | 0, s, h => by cases h; decide
  | k + 1, s, h => by
    simp only [setS] at h
    cases hk : setS l p k with
    | none => rw [hk] at h; cases h
    | some u =>
      rw [hk] at h
      simp only at h
      split at h
      · rename_i he
        split at h
        · cases h
        · rename_i hb
          cases h
          obtain ⟨_, e0, _, e1⟩ := isE_true he
          rw [add_or (by simpa using hb)]
          exact Nat.or_lt_two_pow (setS_bnd hk) (Nat.pow_lt_pow_right (by decide) (by omega))
      · cases h
theorem setS_no {l p : List Int} (hg : grpB l = false) : ∀ {k s : Nat}, setS l p k = some s → s = 0
  | 0, s, h => by cases h; rfl
  | k + 1, s, h => by
    simp only [setS] at h
    cases hk : setS l p k with
    | none => rw [hk] at h; cases h
    | some u =>
      rw [hk] at h
      simp only at h
      have : isE l (p.getD k 0) = false := by
        cases he : isE l (p.getD k 0) with
        | false => rfl
        | true => have := (isE_true he).1; rw [hg] at this; cases this
      rw [if_neg (by rw [this]; decide)] at h
      cases h
/-- The document's answer. -/
def setB (l p : List Int) : Bool := (setS l p p.length).isSome && grpB l
def setV (l p : List Int) : Int := (((setS l p p.length).getD 0 : Nat) : Int)
theorem setS_none_r {l p : List Int} (h : setS l p p.length = none) : setB l p = false ∧ setV l p = 0 := by
  unfold setB setV; rw [h]; exact ⟨rfl, rfl⟩
theorem setS_some_r {l p : List Int} {s : Nat} (h : setS l p p.length = some s) : setB l p = grpB l ∧ setV l p = (s : Int) := by
  unfold setB setV; rw [h]; exact ⟨rfl, rfl⟩
theorem bit_at {s x : Nat} (hs : s < 2 ^ 24) : bits .and .i64 (((s / 2 ^ x : Nat) : Int)) 1 = (if s.testBit x = true then 1 else 0) := by
  have h24 : s < 16777216 := hs
  have hle := Nat.div_le_self s (2 ^ x)
  rw [and1 _ (by omega)]
  by_cases hb : s.testBit x = true
  · rw [if_pos hb, (bit_iff s x).1 hb]; rfl
  · rw [if_neg hb]
    have : ¬ s / 2 ^ x % 2 = 1 := fun e => hb ((bit_iff s x).2 e)
    have : s / 2 ^ x % 2 = 0 := by omega
    rw [this]; rfl
theorem div_pow_cast (s x : Nat) : ((s : Int) / 2 ^ x) = ((s / 2 ^ x : Nat) : Int) := by simp
theorem add_pow {u x : Nat} (hu : u < 16777216) (hx : 2 ^ x ≤ 16777216) : wrap64 ((u : Int) + wrap64 (2 ^ x)) = ((u + 2 ^ x : Nat) : Int) := by
  rw [pow_nat]
  generalize 2 ^ x = N at *
  unfold wrap64; omega
set_option maxHeartbeats 8000000 in
theorem sSetOf (w : World) (a : Option Addr) (l : List Int) (n cap : Nat) (a2 : Option Addr) (p : List Int) (n2 cap2 : Nat) (hn : n = l.length) (hm : n ≤ 9223372036854775807) (hi : Ints w a l) (hn2 : n2 = p.length) (hm2 : n2 ≤ 1048576) (hi2 : Ints w a2 p) :
    Calls Tryz.prog 26 #[.agg #[.slice a n cap], .slice a2 n2 cap2] w fun e w' => e = .returned (.tuple #[.int .i64 (setV l p), .bool (setB l p)]) ∧ Below w.heap.size w w' := by
  have HI := Lib.hid (ints_alloc hi (.cells #[.slice a n cap] 26))
  have HI2 := Lib.hid (ints_alloc hi2 (.cells #[.slice a n cap] 26))
  have HN := Lib.hid hn
  have HN2 := Lib.hid hn2
  have C1 := newC w (.slice a n cap) 26 (n := w.heap.size) rfl
  have HB := Lib.hid (Joins.below_alloc1 w (.cells #[.slice a n cap] 26))
  have T0 := Lib.hid (Below.refl (w.alloc (.cells #[.slice a n cap] 26)).heap.size (w.alloc (.cells #[.slice a n cap] 26)))
  clear hi hn hi2 hn2
  go_enter Tryz.func26, Tryz.ntmps26
  go_wp2
  go_loopw [6, 7] (fun s i wr => ∃ (k : Nat) (u : Nat), k ≤ n2 ∧ i = .int .i64 k ∧ s = .int .i64 u ∧ Hid (setS l p k = some u) ∧ Below (w.alloc (.cells #[.slice a n cap] 26)).heap.size (w.alloc (.cells #[.slice a n cap] 26)) wr) (fun _ i _ => n2 - (intOf i).toNat)
  case atStart => exact ⟨0, 0, Nat.zero_le _, rfl, rfl, Lib.hid rfl, T0.out⟩
  case round =>
    obtain ⟨k, u, hk, rfl, rfl, HS, hbel⟩ := hrel
    have c4 := keepC hbel (by simp) C1
    have T4 := Lib.hid hbel
    have HU := Lib.hid (setS_bnd HS.out)
    have hu24 : u < 16777216 := HU.out
    by_cases hlt : k < n2
    · have hkl : k < p.length := by rw [← HN2.out]; exact hlt
      rcases HI2.out with h0 | ⟨b, off, h1, hbl, hc⟩
      · rw [h0] at hkl; simp at hkl
      · subst h1
        have r1 : wr.cell? ⟨b, off + k, none⟩ = some (.int .i64 (p.getD k 0)) := keepC hbel (by simpa using hbl) (hc k hkl)
        clear hc hkl hbel
        cases he : isE l (p.getD k 0) with
        | false =>
          have HO := Lib.hid (setS_none_r (l := l) (p := p) (setS_out (n := p.length) (setS_bad HS.out he) (by rw [← HN2.out]; exact hlt)))
          have HE : Hid (false = isE l (p.getD k 0)) := Lib.hid he.symm
          clear he
          generalize p.getD k 0 = x at *
          have TD := Lib.hid T4.out.drew
          go_wp2
          (first | go_region_with (first | (go_at_call 57; refine (sIs _ _ _ _ _ _ _ HE.out HN.out hm (HI.out.below rfl TD.out)).mono ?_; rintro e w5 ⟨rfl, hb5⟩; have T5 := Lib.hid (TD.out.trans (hb5.mono TD.out.size)); have c5 := keepC T5.out (by simp) C1; have r5 := keepDs hb5 r1)) | fail)
          all_goals
            go_wp2
            go_ret2
            exact ⟨by rw [HO.out.1, HO.out.2]; rfl, HB.out.trans (T5.out.mono (by simp))⟩
        | true =>
          have HE : Hid (true = isE l (p.getD k 0)) := Lib.hid he.symm
          obtain ⟨_, e0, _, e1⟩ := isE_true he
          cases hbt : u.testBit (p.getD k 0).toNat with
          | true =>
            have HO := Lib.hid (setS_none_r (l := l) (p := p) (setS_out (n := p.length) (setS_dup HS.out he hbt) (by rw [← HN2.out]; exact hlt)))
            have hbv := bit_at (x := (p.getD k 0).toNat) HU.out
            rw [hbt, if_pos rfl] at hbv
            have hdv := div_pow_cast u (p.getD k 0).toNat
            rw [← hdv] at hbv
            clear he hbt hdv
            generalize p.getD k 0 = x at *
            have TD := Lib.hid T4.out.drew
            go_wp2
            (first | go_region_with (first | (go_at_call 57; refine (sIs _ _ _ _ _ _ _ HE.out HN.out hm (HI.out.below rfl TD.out)).mono ?_; rintro e w5 ⟨rfl, hb5⟩; have T5 := Lib.hid (TD.out.trans (hb5.mono TD.out.size)); have c5 := keepC T5.out (by simp) C1; have r5 := keepDs hb5 r1)) | fail)
            all_goals
              go_wp2
              go_ret2
              exact ⟨by rw [HO.out.1, HO.out.2]; rfl, HB.out.trans (T5.out.mono (by simp))⟩
          | false =>
            have HS2 := Lib.hid (setS_add HS.out he hbt)
            have hbv := bit_at (x := (p.getD k 0).toNat) HU.out
            rw [hbt, if_neg (by decide)] at hbv
            have hdv := div_pow_cast u (p.getD k 0).toNat
            rw [← hdv] at hbv
            have hpw := pow_le24 (k := (p.getD k 0).toNat) (by omega)
            have HPW := Lib.hid (wrap_pow (k := (p.getD k 0).toNat) (by omega))
            clear he hbt hdv
            generalize p.getD k 0 = x at *
            have TD := Lib.hid T4.out.drew
            go_wp2
            (first | go_region_with (first | (go_at_call 57; refine (sIs _ _ _ _ _ _ _ HE.out HN.out hm (HI.out.below rfl TD.out)).mono ?_; rintro e w5 ⟨rfl, hb5⟩; have T5 := Lib.hid (TD.out.trans (hb5.mono TD.out.size)); have c5 := keepC T5.out (by simp) C1; have r5 := keepDs hb5 r1)) | fail)
            all_goals
              go_wp2
              go_roundw
              case rel => exact ⟨k + 1, u + 2 ^ x.toNat, by omega, by go_num, by rw [add_pow hu24 hpw], HS2, T5.out⟩
              case measure => simp [intOf]; omega
    · obtain rfl : k = n2 := by omega
      have HS2 := HS
      rw [HN2.out] at HS2
      have HO := Lib.hid (setS_some_r HS2.out)
      clear HS2
      go_wp2_with (go_at_call 44; refine (sIsGroup _ _ _ _ _ HN.out hm (HI.out.below rfl T4.out)).mono ?_; rintro e w5 ⟨rfl, hb5⟩; have T5 := Lib.hid (T4.out.trans (hb5.mono T4.out.size)))
      go_ret2
      exact ⟨by rw [HO.out.1, HO.out.2]; rfl, HB.out.trans (T5.out.mono (by simp))⟩
end Go.Proofs.YtkejpikhlejmaaaGreatDoor

namespace Go.Proofs.YtkejpikhlejmaaaGreatDoor
theorem or_bit (U : List Nat) (s i : Nat) : (U.foldl (fun s x => s ||| 2 ^ x) s).testBit i = (s.testBit i || decide (i ∈ U)) := by
  induction U generalizing s with
  | nil => simp
  | cons x t ih =>
    rw [List.foldl_cons, ih, Nat.testBit_or, Nat.testBit_two_pow]
    by_cases h : x = i
    · subst h; simp
    · have h2 : ¬ i = x := fun e => h e.symm
      simp [h, h2]
/-- The set of a list of elements. -/
def orN (U : List Nat) : Nat := U.foldl (fun s x => s ||| 2 ^ x) 0
theorem orN_bit (U : List Nat) (i : Nat) : (orN U).testBit i = decide (i ∈ U) := by unfold orN; rw [or_bit]; simp
theorem asc_filter (k : Nat) : ∀ (U : List Nat), U.Pairwise (· < ·) → U.filter (fun x => decide (x < k + 1)) = U.filter (fun x => decide (x < k)) ++ (if k ∈ U then [k] else [])
  | [], _ => by simp
  | x :: t, h => by
    rw [List.pairwise_cons] at h
    have ih := asc_filter k t h.2
    rcases Nat.lt_trichotomy x k with hx | hx | hx
    · have h1 : ¬ k = x := by omega
      rw [List.filter_cons_of_pos (by simp; omega), List.filter_cons_of_pos (by simp; omega), ih]
      simp [h1]
    · subst hx
      have e1 : t.filter (fun y => decide (y < x + 1)) = [] := List.filter_eq_nil_iff.2 (fun y hy => by have := h.1 y hy; simp; omega)
      have e2 : t.filter (fun y => decide (y < x)) = [] := List.filter_eq_nil_iff.2 (fun y hy => by have := h.1 y hy; simp; omega)
      rw [List.filter_cons_of_pos (by simp), List.filter_cons_of_neg (by simp), e1, e2]
      simp
    · have e1 : (x :: t).filter (fun y => decide (y < k + 1)) = [] := List.filter_eq_nil_iff.2 (fun y hy => by
        rcases List.mem_cons.1 hy with rfl | hy
        · simp; omega
        · have := h.1 y hy; simp; omega)
      have e2 : (x :: t).filter (fun y => decide (y < k)) = [] := List.filter_eq_nil_iff.2 (fun y hy => by
        rcases List.mem_cons.1 hy with rfl | hy
        · simp; omega
        · have := h.1 y hy; simp; omega)
      have h3 : k ∉ x :: t := fun hk => by
        rcases List.mem_cons.1 hk with rfl | hk
        · omega
        · have := h.1 k hk; omega
      rw [e1, e2, if_neg h3]; rfl
theorem upK_asc {U : List Nat} (h : U.Pairwise (· < ·)) {a : Nat} (ha : ∀ i, a.testBit i = decide (i ∈ U)) : ∀ k, upK a k = U.filter (fun x => decide (x < k))
  | 0 => by simp [upK]
  | k + 1 => by
    rw [upK_succ, ha, upK_asc h ha k, asc_filter k U h]
    by_cases hk : k ∈ U
    · simp [hk]
    · simp [hk]
/-- The elements of the set of an ascending list are the list. -/
theorem bits_asc {U : List Nat} (h : U.Pairwise (· < ·)) (h24 : ∀ x ∈ U, x < 24) {a : Nat} (ha : ∀ i, a.testBit i = decide (i ∈ U)) : bitsN a = U := by
  unfold bitsN
  rw [upK_asc h ha, List.filter_eq_self.2 (fun x hx => by simpa using h24 x hx)]
theorem upK_asc' (a : Nat) : ∀ k, (upK a k).Pairwise (· < ·)
  | 0 => by simp [upK]
  | k + 1 => by
    rw [upK_succ]
    split
    · rw [List.pairwise_append]
      refine ⟨upK_asc' a k, by simp, fun x hx y hy => ?_⟩
      simp at hy; subst hy
      exact (upK_mem hx).1
    · exact upK_asc' a k
theorem bits_bit {a : Nat} (h : a < 2 ^ 24) (i : Nat) : a.testBit i = decide (i ∈ bitsN a) := by
  unfold bitsN upK
  by_cases hi : i < 24
  · cases hb : a.testBit i <;> simp [hi, hb]
  · rw [bit_no h i (by omega)]
    symm
    simp; omega
/-- What reading a list as a set finds, read off the first k. -/
theorem setS_info {l p : List Int} : ∀ {k s : Nat}, k ≤ p.length → setS l p k = some s →
    (∀ j, j < k → isE l (p.getD j 0) = true) ∧ (∀ i j, i < j → j < k → p.getD i 0 ≠ p.getD j 0) ∧ (∀ i : Nat, s.testBit i = decide (∃ j, j < k ∧ p.getD j 0 = (i : Int)))
  | 0, s, _, h => by
    cases h
    exact ⟨fun j hj => by omega, fun i j _ hj => by omega, fun i => by simp⟩
  | k + 1, s, hk, h => by
    simp only [setS] at h
    cases hs : setS l p k with
    | none => rw [hs] at h; cases h
    | some u =>
      rw [hs] at h
      simp only at h
      split at h
      · next he =>
        split at h
        · cases h
        · next hb =>
          cases h
          obtain ⟨i1, i2, i3⟩ := setS_info (by omega) hs
          obtain ⟨_, e0, _, e1⟩ := isE_true he
          have hb' : u.testBit (p.getD k 0).toNat = false := by simpa using hb
          refine ⟨fun j hj => ?_, fun i j hij hj => ?_, fun i => ?_⟩
          · rcases Nat.lt_or_ge j k with h | h
            · exact i1 j h
            · obtain rfl : j = k := by omega
              exact he
          · rcases Nat.lt_or_ge j k with h | h
            · exact i2 i j hij h
            · obtain rfl : j = k := by omega
              intro e
              rw [i3] at hb'
              simp only [decide_eq_false_iff_not] at hb'
              exact hb' ⟨i, hij, by rw [e]; omega⟩
          · rw [add_or hb', Nat.testBit_or, i3, Nat.testBit_two_pow]
            by_cases hx : (p.getD k 0).toNat = i
            · have : ∃ j, j < k + 1 ∧ p.getD j 0 = (i : Int) := ⟨k, by omega, by omega⟩
              simp only [hx, this, decide_true, Bool.or_true]
            · simp only [hx, decide_false, Bool.or_false]
              congr 1
              apply propext
              constructor
              · rintro ⟨j, h1, h2⟩; exact ⟨j, by omega, h2⟩
              · rintro ⟨j, h1, h2⟩
                rcases Nat.lt_or_ge j k with h | h
                · exact ⟨j, h, h2⟩
                · obtain rfl : j = k := by omega
                  omega
      · cases h
theorem setS_asc {l p : List Int} : ∀ {k : Nat}, k ≤ p.length → (∀ j, j < k → isE l (p.getD j 0) = true) → (∀ i j, i < j → j < k → p.getD i 0 < p.getD j 0) → ∃ s, setS l p k = some s
  | 0, _, _, _ => ⟨0, rfl⟩
  | k + 1, hk, h1, h2 => by
    obtain ⟨u, hu⟩ := setS_asc (k := k) (by omega) (fun j hj => h1 j (by omega)) (fun i j a b => h2 i j a (by omega))
    obtain ⟨i1, i2, i3⟩ := setS_info (by omega) hu
    refine ⟨_, setS_add hu (h1 k (by omega)) ?_⟩
    rw [i3]
    simp only [decide_eq_false_iff_not]
    rintro ⟨j, hj, e⟩
    have := h2 j k hj (by omega)
    obtain ⟨_, e0, _, _⟩ := isE_true (h1 k (by omega))
    omega
/-- Whether a list ascends. -/
def srt (p : List Int) : Bool := (List.range (p.length - 1)).all fun j => decide (p.getD j 0 ≤ p.getD (j + 1) 0)
theorem srt_iff (p : List Int) : srt p = true ↔ ∀ j, j + 1 < p.length → p.getD j 0 ≤ p.getD (j + 1) 0 := by
  unfold srt
  rw [List.all_eq_true]
  constructor
  · intro h j hj
    have := h j (by rw [List.mem_range]; omega)
    simpa using this
  · intro h j hj
    rw [List.mem_range] at hj
    simpa using h j (by omega)
theorem srt_le {p : List Int} (h : srt p = true) : ∀ i j, i ≤ j → j < p.length → p.getD i 0 ≤ p.getD j 0 := by
  intro i j hij
  induction j with
  | zero => intro _; obtain rfl : i = 0 := by omega
            exact Int.le_refl _
  | succ j ih =>
    intro hj
    rcases Nat.lt_or_ge i (j + 1) with h1 | h1
    · exact Int.le_trans (ih (by omega) (by omega)) ((srt_iff p).1 h j hj)
    · obtain rfl : i = j + 1 := by omega
      exact Int.le_refl _
theorem getD_map (U : List Nat) (j : Nat) (h : j < U.length) : (U.map fun (x : Nat) => (x : Int)).getD j 0 = (U.getD j 0 : Nat) := by
  simp [List.getD, h]
theorem pair_of {U : List Nat} (h : ∀ i j, i < j → j < U.length → U.getD i 0 < U.getD j 0) : U.Pairwise (· < ·) := by
  rw [List.pairwise_iff_getElem]
  intro i j hi hj hij
  have := h i j hij hj
  simpa [List.getD, hi, hj] using this
theorem of_pair {U : List Nat} (h : U.Pairwise (· < ·)) : ∀ i j, i < j → j < U.length → U.getD i 0 < U.getD j 0 := by
  rw [List.pairwise_iff_getElem] at h
  intro i j hij hj
  have := h i j (by omega) hj hij
  simpa [List.getD, hj, show i < U.length by omega] using this
/-- Reading a list as a set succeeds on an ascending list if and only if it is the list of that set's elements. -/
theorem setS_list {l p : List Int} {s : Nat} (hs : srt p = true) (h : setS l p p.length = some s) (hg : grpB l = true) : isS l (s : Int) = true ∧ lstE l s = p := by
  obtain ⟨i1, i2, i3⟩ := setS_info (Nat.le_refl _) h
  have hle := srt_le hs
  have hstrict : ∀ i j, i < j → j < p.length → p.getD i 0 < p.getD j 0 := fun i j a b => by
    have h1 := hle i j (by omega) b
    have h2 := i2 i j a b
    omega
  have hp := (ords_grp hg).prod
  have hbl : s < 2 ^ (prodI l).toNat := by
    apply Nat.lt_pow_two_of_testBit
    intro i hi
    rw [i3]
    simp only [decide_eq_false_iff_not]
    rintro ⟨j, hj, e⟩
    obtain ⟨_, e0, e2, _⟩ := isE_true (i1 j hj)
    omega
  have hS : isS l (s : Int) = true := by
    simp only [isS, hg, fullN_nat, Bool.true_and, Bool.and_eq_true, decide_eq_true_eq]
    generalize 2 ^ (prodI l).toNat = N at *
    omega
  refine ⟨hS, ?_⟩
  obtain ⟨U, hU⟩ : ∃ U : List Nat, p = U.map fun (x : Nat) => (x : Int) := ⟨p.map Int.toNat, by
    apply List.ext_getElem
    · simp
    · intro j hj _
      have := (isE_true (i1 j hj)).2.1
      simp only [List.getD, List.getElem?_eq_getElem hj, Option.getD_some] at this
      simp; omega⟩
  have hlen : p.length = U.length := by rw [hU]; simp
  have hgd : ∀ j, j < U.length → p.getD j 0 = ((U.getD j 0 : Nat) : Int) := fun j hj => by rw [hU, getD_map U j hj]
  have hasc : U.Pairwise (· < ·) := pair_of (fun i j a b => by
    have := hstrict i j a (by omega)
    rw [hgd i (by omega), hgd j b] at this
    omega)
  have hmem : ∀ i : Nat, (∃ j, j < p.length ∧ p.getD j 0 = (i : Int)) ↔ i ∈ U := fun i => by
    constructor
    · rintro ⟨j, h1, h2⟩
      rw [hgd j (by omega)] at h2
      have : U.getD j 0 = i := by omega
      rw [← this]
      have hj : j < U.length := by omega
      simp only [List.getD, List.getElem?_eq_getElem hj, Option.getD_some]
      exact List.getElem_mem hj
    · intro hi
      obtain ⟨j, hj, e⟩ := List.getElem_of_mem hi
      refine ⟨j, by omega, ?_⟩
      rw [hgd j hj]
      simp [List.getD, hj, e]
  have h24 : ∀ x ∈ U, x < 24 := fun x hx => by
    obtain ⟨j, h1, h2⟩ := (hmem x).2 hx
    have := (isE_true (i1 j h1)).2.2.2
    omega
  have hb : bitsN s = U := bits_asc hasc h24 (fun i => by rw [i3]; congr 1; exact propext (hmem i))
  unfold lstE
  rw [if_pos hS, show ((s : Int)).toNat = s by omega, hb, hU]
/-- A bit of a set is an element. -/
theorem bits_isE' {l : List Int} {m y : Nat} (hs : isS l (m : Int) = true) (hy : y ∈ bitsN m) : isE l (y : Int) = true := by
  obtain ⟨hg, m', e, hm, _⟩ := isS_true hs
  obtain rfl : m = m' := by omega
  have hb := (upK_mem hy).2
  have hlt : y < (prodI l).toNat := by
    rcases Nat.lt_or_ge y (prodI l).toNat with h | h
    · exact h
    · rw [bit_no hm y h] at hb; cases hb
  have hp := (ords_grp hg).prod
  simp only [isE, ordN_grp hg, Bool.and_eq_true, decide_eq_true_eq]
  omega
theorem lst_setS {l : List Int} {a : Nat} (hS : isS l (a : Int) = true) : srt (lstE l a) = true ∧ setS l (lstE l a) (lstE l a).length = some a := by
  obtain ⟨hg, m, e, hm, h24⟩ := isS_true hS
  obtain rfl : a = m := by omega
  have hE : lstE l a = (bitsN a).map fun (x : Nat) => (x : Int) := by unfold lstE; rw [if_pos hS, show ((a : Int)).toNat = a by omega]
  have hlen : (lstE l a).length = (bitsN a).length := by rw [hE]; simp
  have hgd : ∀ j, j < (bitsN a).length → (lstE l a).getD j 0 = (((bitsN a).getD j 0 : Nat) : Int) := fun j hj => by rw [hE, getD_map _ j hj]
  have hp := of_pair (upK_asc' a 24)
  have hst : ∀ i j, i < j → j < (lstE l a).length → (lstE l a).getD i 0 < (lstE l a).getD j 0 := fun i j h1 h2 => by
    have := hp i j h1 (by rw [← show bitsN a = upK a 24 from rfl]; omega)
    rw [hgd i (by omega), hgd j (by omega)]
    unfold bitsN; omega
  refine ⟨(srt_iff _).2 (fun j hj => by have := hst j (j + 1) (by omega) hj; omega), ?_⟩
  have he : ∀ j, j < (lstE l a).length → isE l ((lstE l a).getD j 0) = true := fun j hj => by
    rw [hgd j (by omega)]
    apply bits_isE' hS
    have hj2 : j < (bitsN a).length := by omega
    simp only [List.getD, List.getElem?_eq_getElem hj2, Option.getD_some]
    exact List.getElem_mem hj2
  obtain ⟨s, hs⟩ := setS_asc (Nat.le_refl _) he hst
  obtain ⟨_, _, i3⟩ := setS_info (Nat.le_refl _) hs
  rw [hs]
  congr 1
  apply Nat.eq_of_testBit_eq
  intro i
  rw [i3, bits_bit h24]
  congr 1
  apply propext
  constructor
  · rintro ⟨j, h1, h2⟩
    rw [hgd j (by omega)] at h2
    have : (bitsN a).getD j 0 = i := by omega
    rw [← this]
    have hj : j < (bitsN a).length := by omega
    simp only [List.getD, List.getElem?_eq_getElem hj, Option.getD_some]
    exact List.getElem_mem hj
  · intro hi
    obtain ⟨j, hj, e⟩ := List.getElem_of_mem hi
    refine ⟨j, by omega, ?_⟩
    rw [hgd j hj]
    simp [List.getD, hj, e]
end Go.Proofs.YtkejpikhlejmaaaGreatDoor

namespace Go.Proofs.YtkejpikhlejmaaaGreatDoor
/-- The word none. -/
def noneT : List UInt8 := [110, 111, 110, 101]
/-- What the document's reading of a set does in its loop. -/
def specSL (l : List Int) (cur : List UInt8) (a : Nat) : List UInt8 → Option Nat
  | [] => if (accB cur && isE l (resV cur)) = true then some (a ||| 2 ^ (resV cur).toNat) else none
  | c :: r => if c = 44 then (if (accB cur && isE l (resV cur)) = true then specSL l [] (a ||| 2 ^ (resV cur).toNat) r else none) else specSL l (cur ++ [c]) a r
def okP (l : List Int) (P : List (List UInt8)) : Bool := P.all fun p => accB p && isE l (resV p)
theorem specSL_parts (l : List Int) (cur : List UInt8) (a : Nat) (s : List UInt8) :
    specSL l cur a s = if okP l (partsC 44 cur s) = true then some ((partsC 44 cur s).foldl (fun a p => a ||| 2 ^ (resV p).toNat) a) else none := by
  induction s generalizing cur a with
  | nil =>
    simp only [specSL, partsC, okP, List.all_cons, List.all_nil, Bool.and_true, List.foldl_cons, List.foldl_nil]
  | cons c r ih =>
    unfold specSL partsC
    split
    · cases ha : (accB cur && isE l (resV cur)) with
      | true =>
        rw [if_pos rfl, ih]
        simp only [okP, List.all_cons, ha, Bool.true_and, List.foldl_cons]
        rfl
      | false =>
        rw [if_neg (by decide)]
        simp only [okP, List.all_cons, ha, Bool.false_and]
        rfl
    · rw [ih]
/-- The document's reading. -/
def specPS (l : List Int) (s : List UInt8) : Option Nat :=
  if s = noneT then (if grpB l = true then some 0 else none) else if 80 < s.length then none else
    match specSL l [] 0 s with
    | none => none
    | some a => if fmtS l a = s then some a else none
/-- The program's reading. -/
def implPS (l : List Int) (s : List UInt8) : Option Nat :=
  if s = noneT then (if grpB l = true then some 0 else none) else
    match splR 44 24 s with
    | none => none
    | some vs => if srt vs = true then (if setB l vs = true then setS l vs vs.length else none) else none
theorem parts_app (c : UInt8) (q : List UInt8) (hq : ∀ x ∈ q, x ≠ c) (cur r : List UInt8) : partsC c cur (q ++ r) = partsC c (cur ++ q) r := by
  induction q generalizing cur with
  | nil => simp
  | cons y t ih =>
    rw [List.cons_append, partsC, if_neg (hq y (by simp)), ih (fun x hx => hq x (by simp [hx]))]
    simp
theorem parts_tail (c : UInt8) (Q : List (List UInt8)) (hQ : ∀ q ∈ Q, ∀ x ∈ q, x ≠ c) (cur : List UInt8) : partsC c cur (Lib.joinTail [c] Q) = cur :: Q := by
  induction Q generalizing cur with
  | nil => simp [Lib.joinTail, partsC]
  | cons y t ih =>
    have e : Lib.joinTail [c] (y :: t) = c :: (y ++ Lib.joinTail [c] t) := by simp [Lib.joinTail]
    rw [e, partsC, if_pos rfl, parts_app c y (hQ y (by simp)), List.nil_append, ih (fun q hq => hQ q (by simp [hq]))]
theorem parts_join (c : UInt8) (Q : List (List UInt8)) (hne : Q ≠ []) (hQ : ∀ q ∈ Q, ∀ x ∈ q, x ≠ c) : partsC c [] (Lib.join Q [c]) = Q := by
  match Q, hne with
  | x :: t, _ =>
    rw [Lib.join_cons, parts_app c x (hQ x (by simp)), List.nil_append, parts_tail c t (fun q hq => hQ q (by simp [hq]))]
theorem small_digits {n : Int} (h0 : 0 ≤ n) (h1 : n ≤ 24) : (Lib.itoa n).length ≤ 2 := by
  obtain ⟨u, rfl⟩ : ∃ u : Nat, n = u := ⟨n.toNat, by omega⟩
  rw [Lib.itoa_nonneg, Lib.decDigits_length]
  by_cases h : u < 10
  · rw [Lib.nDigits_small h]; omega
  · rw [Lib.nDigits_big h, Lib.nDigits_small (by omega)]; omega
theorem acc_small {n : Int} (h0 : 0 ≤ n) (h1 : n ≤ 24) : accB (Lib.itoa n) = true ∧ resV (Lib.itoa n) = n ∧ ∀ x ∈ Lib.itoa n, x ≠ 44 := by
  have hl := small_digits h0 h1
  have hv := (itoa_shape n).1
  have ha : accB (Lib.itoa n) = true := by
    unfold accB
    have := cnt_le (Lib.itoa n)
    rw [hv]
    simp; omega
  refine ⟨ha, by unfold resV; rw [if_pos ha, hv], fun x hx e => ?_⟩
  obtain ⟨u, rfl⟩ : ∃ u : Nat, n = u := ⟨n.toNat, by omega⟩
  rw [Lib.itoa_nonneg] at hx
  have := (dec_facts u).2 x (by simpa using hx)
  rw [e] at this
  revert this
  decide
theorem tail_short (c : UInt8) : ∀ (r : List Int), (∀ x ∈ r, 0 ≤ x ∧ x ≤ 24) → (Lib.joinTail [c] (r.map Lib.itoa)).length ≤ 3 * r.length
  | [], _ => by simp [Lib.joinTail]
  | x :: t, h => by
    have h1 := tail_short c t (fun y hy => h y (by simp [hy]))
    have h2 := small_digits (h x (by simp)).1 (h x (by simp)).2
    have e : Lib.joinTail [c] ((x :: t).map Lib.itoa) = [c] ++ Lib.itoa x ++ Lib.joinTail [c] (t.map Lib.itoa) := by simp [Lib.joinTail]
    rw [e]
    simp only [List.length_append, List.length_cons, List.length_nil]
    omega
theorem join_short (c : UInt8) (l : List Int) (h : ∀ x ∈ l, 0 ≤ x ∧ x ≤ 24) : (joinC c l).length ≤ 3 * l.length := by
  match l, h with
  | [], _ => simp [joinC, Lib.join]
  | x :: t, h =>
    have h1 := tail_short c t (fun y hy => h y (by simp [hy]))
    have h2 := small_digits (h x (by simp)).1 (h x (by simp)).2
    unfold joinC
    rw [List.map_cons, Lib.join_cons, List.length_append]
    simp only [List.length_cons]
    omega
theorem fold_bit (P : List (List UInt8)) (a i : Nat) : (P.foldl (fun a p => a ||| 2 ^ (resV p).toNat) a).testBit i = (a.testBit i || decide (∃ p ∈ P, (resV p).toNat = i)) := by
  induction P generalizing a with
  | nil => simp
  | cons x t ih =>
    rw [List.foldl_cons, ih, Nat.testBit_or, Nat.testBit_two_pow, Bool.or_assoc]
    congr 1
    by_cases h1 : (resV x).toNat = i
    · have : ∃ p ∈ x :: t, (resV p).toNat = i := ⟨x, by simp, h1⟩
      simp [h1]
    · simp [h1]
theorem at_of {V : List Int} {x : Int} (h : x ∈ V) : ∃ j, j < V.length ∧ V.getD j 0 = x := by
  obtain ⟨j, hj, e⟩ := List.getElem_of_mem h
  exact ⟨j, hj, by simp [List.getD, hj, e]⟩
theorem of_at {V : List Int} {j : Nat} (h : j < V.length) : V.getD j 0 ∈ V := by
  simp only [List.getD, List.getElem?_eq_getElem h, Option.getD_some]; exact List.getElem_mem h
theorem impl_spec {l : List Int} {s : List UInt8} {a : Nat} (h : implPS l s = some a) : specPS l s = some a := by
  unfold implPS at h
  unfold specPS
  by_cases hn : s = noneT
  · rw [if_pos hn] at h ⊢; exact h
  · rw [if_neg hn] at h ⊢
    have hj := joinC_parts 44 [] s
    simp only [List.nil_append] at hj
    obtain ⟨f1, f2⟩ := splitC_few 44 24 s
    unfold splR at h
    by_cases hl : (Lib.splitK [44] 0 24 s).length ≤ 24
    · rw [if_pos hl] at h
      have hP : Lib.splitK [44] 0 24 s = partsC 44 [] s := by
        apply f1
        rcases Nat.lt_or_ge (24 + 1) (partsC 44 [] s).length with h2 | h2
        · have := f2 h2; omega
        · exact h2
      rw [hP] at h hl
      have hne := partsC_ne 44 [] s
      generalize partsC 44 [] s = P at *
      cases hacc : allAcc P with
      | false => rw [hacc] at h; simp at h
      | true =>
        rw [hacc, if_pos rfl] at h
        simp only at h
        obtain ⟨V, hV⟩ : ∃ V, P.map resV = V := ⟨_, rfl⟩
        rw [hV] at h
        cases hs : srt V with
        | false => rw [hs] at h; simp at h
        | true =>
          rw [hs, if_pos rfl] at h
          cases hb : setB l V with
          | false => rw [hb] at h; simp at h
          | true =>
            rw [hb, if_pos rfl] at h
            have hg : grpB l = true := by
              unfold setB at hb
              simp only [Bool.and_eq_true] at hb
              exact hb.2
            obtain ⟨hS, hL⟩ := setS_list hs h hg
            obtain ⟨i1, i2, i3⟩ := setS_info (Nat.le_refl _) h
            have hVne : V ≠ [] := by rw [← hV]; simpa using hne
            have htx : joinC 44 V = s := by
              unfold joinC
              rw [← hV, acc_texts hacc, hj]
            have hmemE : ∀ x ∈ V, isE l x = true := fun x hx => by
              obtain ⟨j, h1, h2⟩ := at_of hx
              rw [← h2]; exact i1 j h1
            have hVl : V.length ≤ 24 := by rw [← hV, List.length_map]; exact hl
            have hlen : s.length ≤ 80 := by
              rw [← htx]
              have := join_short 44 V (fun x hx => by
                obtain ⟨_, e0, _, e1⟩ := isE_true (hmemE x hx)
                omega)
              omega
            have hok : okP l P = true := by
              unfold okP
              rw [List.all_eq_true]
              intro p hp
              unfold allAcc at hacc
              rw [List.all_eq_true] at hacc
              rw [Bool.and_eq_true]
              exact ⟨hacc p hp, hmemE _ (by rw [← hV]; exact List.mem_map_of_mem hp)⟩
            rw [if_neg (by omega), specSL_parts]
            have hPP : partsC 44 [] s = P := by
              have := parts_join 44 P hne (fun q hq x hx => by
                unfold allAcc at hacc
                rw [List.all_eq_true] at hacc
                have h1 := acc_text (hacc q hq)
                have h2 : resV q ∈ V := by rw [← hV]; exact List.mem_map_of_mem hq
                obtain ⟨_, e0, _, e1⟩ := isE_true (hmemE _ h2)
                rw [← h1] at hx
                exact (acc_small e0 (by omega)).2.2 x hx)
              rw [hj] at this
              exact this
            rw [hPP, if_pos hok]
            have hfold : P.foldl (fun a p => a ||| 2 ^ (resV p).toNat) 0 = a := by
              apply Nat.eq_of_testBit_eq
              intro i
              rw [fold_bit, i3]
              simp only [Nat.zero_testBit, Bool.false_or]
              congr 1
              apply propext
              constructor
              · rintro ⟨p, hp, e⟩
                have h2 : resV p ∈ V := by rw [← hV]; exact List.mem_map_of_mem hp
                obtain ⟨j, h3, h4⟩ := at_of h2
                obtain ⟨_, e0, _, _⟩ := isE_true (hmemE _ h2)
                exact ⟨j, h3, by omega⟩
              · rintro ⟨j, h3, h4⟩
                have h2 := of_at h3
                rw [← hV, List.mem_map] at h2
                obtain ⟨p, hp, e⟩ := h2
                exact ⟨p, hp, by rw [e, hV, h4]; omega⟩
            rw [hfold]
            simp only
            have hf : fmtS l a = s := by
              unfold fmtS
              rw [if_pos hS, hL, if_neg hVne, htx]
            rw [if_pos hf]
    · rw [if_neg hl] at h
      simp at h
theorem spec_impl {l : List Int} {s : List UInt8} {a : Nat} (h : specPS l s = some a) : implPS l s = some a := by
  unfold specPS at h
  unfold implPS
  by_cases hn : s = noneT
  · rw [if_pos hn] at h ⊢; exact h
  · rw [if_neg hn] at h ⊢
    by_cases h80 : 80 < s.length
    · rw [if_pos h80] at h; cases h
    · rw [if_neg h80, specSL_parts] at h
      obtain ⟨f1, _⟩ := splitC_few 44 24 s
      have hne := partsC_ne 44 [] s
      obtain ⟨P, hP⟩ : ∃ P, partsC 44 [] s = P := ⟨_, rfl⟩
      rw [hP] at h f1 hne
      cases hok : okP l P with
      | false => rw [hok] at h; simp at h
      | true =>
        rw [hok, if_pos rfl] at h
        simp only at h
        obtain ⟨A, hA⟩ : ∃ A, P.foldl (fun a p => a ||| 2 ^ (resV p).toNat) 0 = A := ⟨_, rfl⟩
        rw [hA] at h
        by_cases hf : fmtS l A = s
        · rw [if_pos hf] at h
          obtain rfl := Option.some.inj h
          unfold okP at hok
          rw [List.all_eq_true] at hok
          have hE : ∀ p ∈ P, isE l (resV p) = true := fun p hp => by
            have := hok p hp
            rw [Bool.and_eq_true] at this
            exact this.2
          have hg : grpB l = true := by
            match P, hne, hE with
            | x :: _, _, hE => exact (isE_true (hE x (by simp))).1
          have hbit : ∀ i, A.testBit i = decide (∃ p ∈ P, (resV p).toNat = i) := fun i => by
            rw [← hA, fold_bit]; simp
          have hp := (ords_grp hg).prod
          have hbl : A < 2 ^ (prodI l).toNat := by
            apply Nat.lt_pow_two_of_testBit
            intro i hi
            rw [hbit]
            simp only [decide_eq_false_iff_not]
            rintro ⟨p, hpm, e⟩
            obtain ⟨_, e0, e2, _⟩ := isE_true (hE p hpm)
            omega
          have hS : isS l (A : Int) = true := by
            simp only [isS, hg, fullN_nat, Bool.true_and, Bool.and_eq_true, decide_eq_true_eq]
            generalize 2 ^ (prodI l).toNat = N at *
            omega
          unfold fmtS at hf
          rw [if_pos hS] at hf
          have hWne : lstE l A ≠ [] := fun e => by
            rw [if_pos e] at hf; exact hn hf.symm
          rw [if_neg hWne] at hf
          obtain ⟨hsrt, hset⟩ := lst_setS hS
          have hWl := lstE_len l A
          have hWE : ∀ x ∈ lstE l A, 0 ≤ x ∧ x ≤ 24 := fun x hx => by
            unfold lstE at hx
            rw [if_pos hS, List.mem_map] at hx
            obtain ⟨y, hy, rfl⟩ := hx
            have := (upK_mem hy).1
            omega
          obtain ⟨W, hW⟩ : ∃ W, lstE l A = W := ⟨_, rfl⟩
          rw [hW] at hf hWne hsrt hset hWl hWE
          have hPW : P = W.map Lib.itoa := by
            rw [← hP, ← hf]
            unfold joinC
            exact parts_join 44 _ (by simpa using hWne) (fun q hq x hx => by
              rw [List.mem_map] at hq
              obtain ⟨n, hn1, rfl⟩ := hq
              exact (acc_small (hWE n hn1).1 (hWE n hn1).2).2.2 x hx)
          have hPl : P.length ≤ 24 := by rw [hPW, List.length_map]; exact hWl
          have hacc : allAcc P = true := by
            unfold allAcc
            rw [List.all_eq_true]
            intro p hp
            rw [hPW, List.mem_map] at hp
            obtain ⟨n, hn1, rfl⟩ := hp
            exact (acc_small (hWE n hn1).1 (hWE n hn1).2).1
          have hVW : P.map resV = W := by
            rw [hPW, List.map_map]
            conv => rhs; rw [← List.map_id W]
            apply List.map_congr_left
            intro n hn1
            exact (acc_small (hWE n hn1).1 (hWE n hn1).2).2.1
          unfold splR
          rw [f1 (by omega), if_pos hPl, hacc, if_pos rfl, hVW]
          simp only
          rw [hsrt, if_pos rfl]
          have hb : setB l W = true := by unfold setB; rw [hset, hg]; rfl
          rw [hb, if_pos rfl, hset]
        · rw [if_neg hf] at h; cases h
theorem both_sets (l : List Int) (s : List UInt8) : implPS l s = specPS l s := by
  cases h : implPS l s with
  | some a => rw [impl_spec h]
  | none =>
    cases h2 : specPS l s with
    | none => rfl
    | some a => rw [spec_impl h2] at h; cases h
end Go.Proofs.YtkejpikhlejmaaaGreatDoor

namespace Go.Proofs.YtkejpikhlejmaaaGreatDoor
theorem mem_bits {m : Nat} (h : m < 2 ^ 24) (x : Nat) : x ∈ bitsN m ↔ m.testBit x = true := by
  constructor
  · exact fun hx => (upK_mem hx).2
  · intro hb
    unfold bitsN upK
    rw [List.mem_filter, List.mem_range]
    refine ⟨?_, hb⟩
    rcases Nat.lt_or_ge x 24 with h1 | h1
    · exact h1
    · rw [bit_no h x h1] at hb; cases hb
theorem bits_nodup (m : Nat) : (bitsN m).Nodup := by
  unfold bitsN upK
  exact List.Pairwise.filter _ List.nodup_range
theorem orF_bit (f : Nat → Int) (L : List Nat) (k : Nat) : (orF f L).testBit k = true ↔ ∃ x ∈ L, (f x).toNat = k := by
  have : ∀ (L : List Nat) (s : Nat), (L.foldl (fun s x => s ||| 2 ^ (f x).toNat) s).testBit k = true ↔ s.testBit k = true ∨ ∃ x ∈ L, (f x).toNat = k := by
    intro L
    induction L with
    | nil => intro s; simp
    | cons x t ih =>
      intro s
      rw [List.foldl_cons, ih, Nat.testBit_or, Nat.testBit_two_pow, Bool.or_eq_true, decide_eq_true_eq]
      simp only [List.mem_cons]
      constructor
      · rintro ((h | h) | ⟨y, hy, h⟩)
        · exact .inl h
        · exact .inr ⟨x, .inl rfl, h⟩
        · exact .inr ⟨y, .inr hy, h⟩
      · rintro (h | ⟨y, rfl | hy, h⟩)
        · exact .inl (.inl h)
        · exact .inl (.inr h)
        · exact .inr ⟨y, hy, h⟩
  unfold orF
  rw [this L 0]; simp
/-- The number of a set that is moved by f lies within the group, if f does. -/
theorem orF_set {l : List Int} (hg : grpB l = true) (f : Nat → Int) (L : List Nat) (hf : ∀ x, 0 ≤ f x ∧ f x < prodI l) : isS l ((orF f L : Nat) : Int) = true := by
  have hlt := orF_lt f L (prodI l).toNat (fun x _ => by have := hf x; omega)
  simp only [isS, hg, fullN_nat, Bool.true_and, Bool.and_eq_true, decide_eq_true_eq]
  generalize orF f L = A at *
  generalize 2 ^ (prodI l).toNat = N at *
  omega
end Go.Proofs.YtkejpikhlejmaaaGreatDoor

namespace Go.Proofs.YtkejpikhlejmaaaGreatDoor
/-- Moved by f and then by g, which undoes f: the same set. -/
theorem orF_back {l : List Int} {m : Nat} (hs : isS l (m : Int) = true) (f g : Nat → Int) (hf : ∀ x, 0 ≤ f x ∧ f x < prodI l) (hgf : ∀ x : Nat, (x : Int) < prodI l → g (f x).toNat = (x : Int)) : orF g (bitsN (orF f (bitsN m))) = m := by
  obtain ⟨hg, m', e, hm, h24⟩ := isS_true hs
  obtain rfl : m = m' := by omega
  have hp := (ords_grp hg).prod
  have hx : ∀ x ∈ bitsN m, (x : Int) < prodI l := fun x hx => by
    have hb := (upK_mem hx).2
    rcases Nat.lt_or_ge x (prodI l).toNat with h | h
    · omega
    · rw [bit_no hm x h] at hb; cases hb
  have hlt : orF f (bitsN m) < 2 ^ 24 := Nat.lt_of_lt_of_le (orF_lt f (bitsN m) (prodI l).toNat (fun x _ => by have := hf x; omega)) (Nat.pow_le_pow_right (by decide) (by have := (grpB_true hg).2.2; omega))
  apply Nat.eq_of_testBit_eq
  intro i
  apply Bool.eq_iff_iff.2
  rw [orF_bit]
  constructor
  · rintro ⟨y, hy, e⟩
    rw [mem_bits hlt, orF_bit] at hy
    obtain ⟨x, hxm, rfl⟩ := hy
    rw [hgf x (hx x hxm)] at e
    rw [← mem_bits h24]
    have : x = i := by omega
    rw [← this]; exact hxm
  · intro hb
    have hm := (mem_bits h24 i).2 hb
    refine ⟨(f i).toNat, ?_, ?_⟩
    · rw [mem_bits hlt, orF_bit]; exact ⟨i, hm, rfl⟩
    · rw [hgf i (hx i hm)]; omega
/-- Moved by f, which can be undone: as many elements. -/
theorem orF_count {l : List Int} {m : Nat} (hs : isS l (m : Int) = true) (f g : Nat → Int) (hf : ∀ x, 0 ≤ f x ∧ f x < prodI l) (hgf : ∀ x : Nat, (x : Int) < prodI l → g (f x).toNat = (x : Int)) : (bitsN (orF f (bitsN m))).length = (bitsN m).length := by
  obtain ⟨hg, m', e, hm, h24⟩ := isS_true hs
  obtain rfl : m = m' := by omega
  have hp := (ords_grp hg).prod
  have hx : ∀ x ∈ bitsN m, (x : Int) < prodI l := fun x hx => by
    have hb := (upK_mem hx).2
    rcases Nat.lt_or_ge x (prodI l).toNat with h | h
    · omega
    · rw [bit_no hm x h] at hb; cases hb
  have hlt : orF f (bitsN m) < 2 ^ 24 := Nat.lt_of_lt_of_le (orF_lt f (bitsN m) (prodI l).toNat (fun x _ => by have := hf x; omega)) (Nat.pow_le_pow_right (by decide) (by have := (grpB_true hg).2.2; omega))
  apply Nat.le_antisymm
  · have := len_le_of_sub (bitsN (orF f (bitsN m))) ((bitsN m).map fun x => (f x).toNat) (bits_nodup _) (fun y hy => by
      rw [mem_bits hlt, orF_bit] at hy
      obtain ⟨x, hxm, rfl⟩ := hy
      exact List.mem_map_of_mem hxm)
    simpa using this
  · have := len_le_of_sub ((bitsN m)) ((bitsN (orF f (bitsN m))).map fun y => (g y).toNat) (bits_nodup _) (fun x hxm => by
      rw [List.mem_map]
      refine ⟨(f x).toNat, ?_, ?_⟩
      · rw [mem_bits hlt, orF_bit]; exact ⟨x, hxm, rfl⟩
      · rw [hgf x (hx x hxm)]; omega)
    simpa using this
/-- What is written of a set is read as that set. -/
theorem parse_fmt (l : List Int) (a : Int) : specPS l (fmtS l a) = if isS l a = true then some a.toNat else none := by
  cases hs : isS l a with
  | false =>
    rw [if_neg (by decide)]
    have hf : fmtS l a = [] := by unfold fmtS; rw [if_neg (by simp [hs])]
    rw [hf]
    unfold specPS
    rw [if_neg (by decide), if_neg (by decide)]
    have : accB ([] : List UInt8) = false := by rw [acc_iff, show pdB (digL ([] : List UInt8)) = false by decide, Bool.false_and]
    simp [specSL, this]
  | true =>
    rw [if_pos rfl]
    obtain ⟨hg, m, rfl, hm, h24⟩ := isS_true hs
    rw [show ((m : Int)).toNat = m by omega]
    rw [← both_sets]
    obtain ⟨hsrt, hset⟩ := lst_setS hs
    have hWl := lstE_len l m
    have hWE : ∀ x ∈ lstE l m, 0 ≤ x ∧ x ≤ 24 := fun x hx => by
      unfold lstE at hx
      rw [if_pos hs, List.mem_map] at hx
      obtain ⟨y, hy, rfl⟩ := hx
      have := (upK_mem hy).1
      omega
    have hnil : lstE l m = [] → m = 0 := fun e => by
      rw [e] at hset
      exact (Option.some.inj hset).symm
    unfold fmtS
    rw [if_pos hs]
    obtain ⟨W, hW⟩ : ∃ W, lstE l m = W := ⟨_, rfl⟩
    rw [hW] at hsrt hset hWl hWE hnil ⊢
    by_cases hWne : W = []
    · rw [if_pos hWne]
      unfold implPS
      have e0 : ([110, 111, 110, 101] : List UInt8) = noneT := rfl
      rw [if_pos e0, if_pos hg, hnil hWne]
    · rw [if_neg hWne]
      have hPW : partsC 44 [] (joinC 44 W) = W.map Lib.itoa := by
        unfold joinC
        exact parts_join 44 _ (by simpa using hWne) (fun q hq x hx => by
          rw [List.mem_map] at hq
          obtain ⟨n, hn1, rfl⟩ := hq
          exact (acc_small (hWE n hn1).1 (hWE n hn1).2).2.2 x hx)
      have hacc : allAcc (W.map Lib.itoa) = true := by
        unfold allAcc
        rw [List.all_eq_true]
        intro p hp
        rw [List.mem_map] at hp
        obtain ⟨n, hn1, rfl⟩ := hp
        exact (acc_small (hWE n hn1).1 (hWE n hn1).2).1
      have hVW : (W.map Lib.itoa).map resV = W := by
        rw [List.map_map]
        conv => rhs; rw [← List.map_id W]
        apply List.map_congr_left
        intro n hn1
        exact (acc_small (hWE n hn1).1 (hWE n hn1).2).2.1
      have hnn : joinC 44 W ≠ noneT := fun e => by
        rw [e] at hPW
        have h1 : partsC 44 [] noneT = [noneT] := by decide
        rw [h1] at hPW
        rw [← hPW] at hacc
        have h2 : accB noneT = false := by rw [acc_iff, show pdB (digL noneT) = false by decide, Bool.false_and]
        simp [allAcc, h2] at hacc
      obtain ⟨f1, _⟩ := splitC_few 44 24 (joinC 44 W)
      rw [hPW] at f1
      unfold implPS splR
      rw [if_neg hnn, f1 (by rw [List.length_map]; omega), if_pos (by rw [List.length_map]; exact hWl), hacc, if_pos rfl, hVW]
      simp only
      have hb : setB l W = true := by unfold setB; rw [hset, hg]; rfl
      rw [hsrt, if_pos rfl, hb, if_pos rfl, hset]
/-- What is listed of a set makes that set again. -/
theorem list_make {l : List Int} {a : Int} (h : isS l a = true) : setV l (lstE l a) = a ∧ setB l (lstE l a) = true := by
  obtain ⟨hg, m, rfl, hm, h24⟩ := isS_true h
  obtain ⟨_, hset⟩ := lst_setS h
  obtain ⟨h1, h2⟩ := setS_some_r hset
  exact ⟨h2, by rw [h1, hg]⟩
end Go.Proofs.YtkejpikhlejmaaaGreatDoor
