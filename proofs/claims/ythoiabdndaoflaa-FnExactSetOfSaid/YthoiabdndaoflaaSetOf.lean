/- Sets out of lists of elements: the plain reader, and the contract of spec.SetOf. -/
import Derived.Test.YthoiabdndaoflaaSetSpec
import Derived.Deep.RegionHeld3
import Derived.Deep.DeepCutAuto
namespace Go.Proofs.Ythoiabdndaoflaa
open Go.RowKit
set_option maxRecDepth 1000000
/-- The set of the first k of the elements, if they are elements and different. -/
def setS (l p : List Int) : Nat → Option Nat
  | 0 => some 0
  | k + 1 => match setS l p k with
    | none => none
    | some s => if isE l (p.getD k 0) = true then (if s.testBit (p.getD k 0).toNat = true then none else some (s + 2 ^ (p.getD k 0).toNat)) else none
theorem setS_none {l p : List Int} {k : Nat} (h : setS l p k = none) : ∀ m, setS l p (k + m) = none
  | 0 => h
  | m + 1 => by
    show (match setS l p (k + m) with | none => none | some s => _) = none
    rw [setS_none h m]
theorem setS_out {l p : List Int} {k n : Nat} (h : setS l p (k + 1) = none) (hk : k < n) : setS l p n = none := by
  have := setS_none h (n - (k + 1))
  rwa [show k + 1 + (n - (k + 1)) = n by omega] at this
theorem setS_bad {l p : List Int} {k s : Nat} (h : setS l p k = some s) (he : isE l (p.getD k 0) = false) : setS l p (k + 1) = none := by
  simp only [setS, h]; rw [if_neg (by rw [he]; decide)]
theorem setS_dup {l p : List Int} {k s : Nat} (h : setS l p k = some s) (he : isE l (p.getD k 0) = true) (hb : s.testBit (p.getD k 0).toNat = true) : setS l p (k + 1) = none := by
  simp only [setS, h]; rw [if_pos he, if_pos hb]
theorem setS_add {l p : List Int} {k s : Nat} (h : setS l p k = some s) (he : isE l (p.getD k 0) = true) (hb : s.testBit (p.getD k 0).toNat = false) : setS l p (k + 1) = some (s + 2 ^ (p.getD k 0).toNat) := by
  simp only [setS, h]; rw [if_pos he, if_neg (by rw [hb]; decide)]
theorem keepDs {w w' : World} {p : Addr} {v : Value} (hb : Below w.heap.size w w') (h : w.cell? p = some v) : w'.cell? p = some v := keepC hb (World.block_lt_of_cell? w _ h) h
theorem add_or {s x : Nat} (h : s.testBit x = false) : s + 2 ^ x = s ||| 2 ^ x := by
  have h1 : s = 2 ^ (x + 1) * (s / 2 ^ (x + 1)) + s % 2 ^ (x + 1) := (Nat.div_add_mod s _).symm
  have h2 : s % 2 ^ (x + 1) < 2 ^ x := by
    have hm := Nat.mod_lt s (Nat.two_pow_pos (x + 1))
    rcases Nat.lt_or_ge (s % 2 ^ (x + 1)) (2 ^ x) with h3 | h3
    · exact h3
    · exfalso
      have h4 : (s % 2 ^ (x + 1)).testBit x = true := by
        rw [Nat.testBit_eq_decide_div_mod_eq]
        have : s % 2 ^ (x + 1) / 2 ^ x = 1 := by
          apply Nat.div_eq_of_lt_le
          · simpa using h3
          · rw [Nat.pow_succ] at hm; omega
        rw [this]; rfl
      rw [Nat.testBit_mod_two_pow, h] at h4
      simp at h4
  generalize s / 2 ^ (x + 1) = q at h1
  generalize s % 2 ^ (x + 1) = r at h1 h2
  subst h1
  have hr : r < 2 ^ (x + 1) := by rw [Nat.pow_succ]; omega
  have e1 : 2 ^ x * 1 + r = 2 ^ x * 1 ||| r := Nat.two_pow_add_eq_or_of_lt h2 1
  rw [Nat.mul_one] at e1
  have hr2 : 2 ^ x + r < 2 ^ (x + 1) := by rw [Nat.pow_succ]; omega
  have e2 : (2 ^ (x + 1) * q + r) ||| 2 ^ x = 2 ^ (x + 1) * q + (2 ^ x + r) := by
    rw [Nat.two_pow_add_eq_or_of_lt hr q, Nat.or_assoc, Nat.or_comm r, ← e1, ← Nat.two_pow_add_eq_or_of_lt hr2 q]
  rw [e2]
  omega
theorem setS_bnd {l p : List Int} : ∀ {k s : Nat}, setS l p k = some s → s < 2 ^ 24
  | 0, s, h => by cases h; decide
  | k + 1, s, h => by
    simp only [setS] at h
    cases hk : setS l p k with
    | none => rw [hk] at h; cases h
    | some u =>
      rw [hk] at h
      simp only at h
      split at h
      · rename_i he
        split at h
        · cases h
        · rename_i hb
          cases h
          obtain ⟨_, e0, _, e1⟩ := isE_true he
          rw [add_or (by simpa using hb)]
          exact Nat.or_lt_two_pow (setS_bnd hk) (Nat.pow_lt_pow_right (by decide) (by omega))
      · cases h
theorem setS_no {l p : List Int} (hg : grpB l = false) : ∀ {k s : Nat}, setS l p k = some s → s = 0
  | 0, s, h => by cases h; rfl
  | k + 1, s, h => by
    simp only [setS] at h
    cases hk : setS l p k with
    | none => rw [hk] at h; cases h
    | some u =>
      rw [hk] at h
      simp only at h
      have : isE l (p.getD k 0) = false := by
        cases he : isE l (p.getD k 0) with
        | false => rfl
        | true => have := (isE_true he).1; rw [hg] at this; cases this
      rw [if_neg (by rw [this]; decide)] at h
      cases h
/-- The document's answer. -/
def setB (l p : List Int) : Bool := (setS l p p.length).isSome && grpB l
def setV (l p : List Int) : Int := (((setS l p p.length).getD 0 : Nat) : Int)
theorem setS_none_r {l p : List Int} (h : setS l p p.length = none) : setB l p = false ∧ setV l p = 0 := by
  unfold setB setV; rw [h]; exact ⟨rfl, rfl⟩
theorem setS_some_r {l p : List Int} {s : Nat} (h : setS l p p.length = some s) : setB l p = grpB l ∧ setV l p = (s : Int) := by
  unfold setB setV; rw [h]; exact ⟨rfl, rfl⟩
theorem bit_at {s x : Nat} (hs : s < 2 ^ 24) : bits .and .i64 (((s / 2 ^ x : Nat) : Int)) 1 = (if s.testBit x = true then 1 else 0) := by
  have h24 : s < 16777216 := hs
  have hle := Nat.div_le_self s (2 ^ x)
  rw [and1 _ (by omega)]
  by_cases hb : s.testBit x = true
  · rw [if_pos hb, (bit_iff s x).1 hb]; rfl
  · rw [if_neg hb]
    have : ¬ s / 2 ^ x % 2 = 1 := fun e => hb ((bit_iff s x).2 e)
    have : s / 2 ^ x % 2 = 0 := by omega
    rw [this]; rfl
theorem div_pow_cast (s x : Nat) : ((s : Int) / 2 ^ x) = ((s / 2 ^ x : Nat) : Int) := by simp
theorem add_pow {u x : Nat} (hu : u < 16777216) (hx : 2 ^ x ≤ 16777216) : wrap64 ((u : Int) + wrap64 (2 ^ x)) = ((u + 2 ^ x : Nat) : Int) := by
  rw [pow_nat]
  generalize 2 ^ x = N at *
  unfold wrap64; omega
set_option maxHeartbeats 8000000 in
theorem sSetOf (w : World) (a : Option Addr) (l : List Int) (n cap : Nat) (a2 : Option Addr) (p : List Int) (n2 cap2 : Nat) (hn : n = l.length) (hm : n ≤ 9223372036854775807) (hi : Ints w a l) (hn2 : n2 = p.length) (hm2 : n2 ≤ 1048576) (hi2 : Ints w a2 p) :
    Calls Try.prog 18 #[.agg #[.slice a n cap], .slice a2 n2 cap2] w fun e w' => e = .returned (.tuple #[.int .i64 (setV l p), .bool (setB l p)]) ∧ Below w.heap.size w w' := by
  have HI := Lib.hid (ints_alloc hi (.cells #[.slice a n cap] 27))
  have HI2 := Lib.hid (ints_alloc hi2 (.cells #[.slice a n cap] 27))
  have HN := Lib.hid hn
  have HN2 := Lib.hid hn2
  have C1 := newC w (.slice a n cap) 27 (n := w.heap.size) rfl
  have HB := Lib.hid (Joins.below_alloc1 w (.cells #[.slice a n cap] 27))
  have T0 := Lib.hid (Below.refl (w.alloc (.cells #[.slice a n cap] 27)).heap.size (w.alloc (.cells #[.slice a n cap] 27)))
  clear hi hn hi2 hn2
  go_enter Try.func18, Try.ntmps18
  go_wp2
  go_loopw [6, 7] (fun s i wr => ∃ (k : Nat) (u : Nat), k ≤ n2 ∧ i = .int .i64 k ∧ s = .int .i64 u ∧ Hid (setS l p k = some u) ∧ Below (w.alloc (.cells #[.slice a n cap] 27)).heap.size (w.alloc (.cells #[.slice a n cap] 27)) wr) (fun _ i _ => n2 - (intOf i).toNat)
  case atStart => exact ⟨0, 0, Nat.zero_le _, rfl, rfl, Lib.hid rfl, T0.out⟩
  case round =>
    obtain ⟨k, u, hk, rfl, rfl, HS, hbel⟩ := hrel
    have c4 := keepC hbel (by simp) C1
    have T4 := Lib.hid hbel
    have HU := Lib.hid (setS_bnd HS.out)
    have hu24 : u < 16777216 := HU.out
    by_cases hlt : k < n2
    · have hkl : k < p.length := by rw [← HN2.out]; exact hlt
      rcases HI2.out with h0 | ⟨b, off, h1, hbl, hc⟩
      · rw [h0] at hkl; simp at hkl
      · subst h1
        have r1 : wr.cell? ⟨b, off + k, none⟩ = some (.int .i64 (p.getD k 0)) := keepC hbel (by simpa using hbl) (hc k hkl)
        clear hc hkl hbel
        cases he : isE l (p.getD k 0) with
        | false =>
          have HO := Lib.hid (setS_none_r (l := l) (p := p) (setS_out (n := p.length) (setS_bad HS.out he) (by rw [← HN2.out]; exact hlt)))
          have HE : Hid (false = isE l (p.getD k 0)) := Lib.hid he.symm
          clear he
          generalize p.getD k 0 = x at *
          have TD := Lib.hid T4.out.drew
          go_wp2
          (first | go_region_with (first | (go_at_call 35; refine (sIs _ _ _ _ _ _ _ HE.out HN.out hm (HI.out.below rfl TD.out)).mono ?_; rintro e w5 ⟨rfl, hb5⟩; have T5 := Lib.hid (TD.out.trans (hb5.mono TD.out.size)); have c5 := keepC T5.out (by simp) C1; have r5 := keepDs hb5 r1)) | fail)
          all_goals
            go_wp2
            go_ret2
            exact ⟨by rw [HO.out.1, HO.out.2]; rfl, HB.out.trans (T5.out.mono (by simp))⟩
        | true =>
          have HE : Hid (true = isE l (p.getD k 0)) := Lib.hid he.symm
          obtain ⟨_, e0, _, e1⟩ := isE_true he
          cases hbt : u.testBit (p.getD k 0).toNat with
          | true =>
            have HO := Lib.hid (setS_none_r (l := l) (p := p) (setS_out (n := p.length) (setS_dup HS.out he hbt) (by rw [← HN2.out]; exact hlt)))
            have hbv := bit_at (x := (p.getD k 0).toNat) HU.out
            rw [hbt, if_pos rfl] at hbv
            have hdv := div_pow_cast u (p.getD k 0).toNat
            rw [← hdv] at hbv
            clear he hbt hdv
            generalize p.getD k 0 = x at *
            have TD := Lib.hid T4.out.drew
            go_wp2
            (first | go_region_with (first | (go_at_call 35; refine (sIs _ _ _ _ _ _ _ HE.out HN.out hm (HI.out.below rfl TD.out)).mono ?_; rintro e w5 ⟨rfl, hb5⟩; have T5 := Lib.hid (TD.out.trans (hb5.mono TD.out.size)); have c5 := keepC T5.out (by simp) C1; have r5 := keepDs hb5 r1)) | fail)
            all_goals
              go_wp2
              go_ret2
              exact ⟨by rw [HO.out.1, HO.out.2]; rfl, HB.out.trans (T5.out.mono (by simp))⟩
          | false =>
            have HS2 := Lib.hid (setS_add HS.out he hbt)
            have hbv := bit_at (x := (p.getD k 0).toNat) HU.out
            rw [hbt, if_neg (by decide)] at hbv
            have hdv := div_pow_cast u (p.getD k 0).toNat
            rw [← hdv] at hbv
            have hpw := pow_le24 (k := (p.getD k 0).toNat) (by omega)
            have HPW := Lib.hid (wrap_pow (k := (p.getD k 0).toNat) (by omega))
            clear he hbt hdv
            generalize p.getD k 0 = x at *
            have TD := Lib.hid T4.out.drew
            go_wp2
            (first | go_region_with (first | (go_at_call 35; refine (sIs _ _ _ _ _ _ _ HE.out HN.out hm (HI.out.below rfl TD.out)).mono ?_; rintro e w5 ⟨rfl, hb5⟩; have T5 := Lib.hid (TD.out.trans (hb5.mono TD.out.size)); have c5 := keepC T5.out (by simp) C1; have r5 := keepDs hb5 r1)) | fail)
            all_goals
              go_wp2
              go_roundw
              case rel => exact ⟨k + 1, u + 2 ^ x.toNat, by omega, by go_num, by rw [add_pow hu24 hpw], HS2, T5.out⟩
              case measure => simp [intOf]; omega
    · obtain rfl : k = n2 := by omega
      have HS2 := HS
      rw [HN2.out] at HS2
      have HO := Lib.hid (setS_some_r HS2.out)
      clear HS2
      go_wp2_with (go_at_call 27; refine (sIsGroup _ _ _ _ _ HN.out hm (HI.out.below rfl T4.out)).mono ?_; rintro e w5 ⟨rfl, hb5⟩; have T5 := Lib.hid (T4.out.trans (hb5.mono T4.out.size)))
      go_ret2
      exact ⟨by rw [HO.out.1, HO.out.2]; rfl, HB.out.trans (T5.out.mono (by simp))⟩
end Go.Proofs.Ythoiabdndaoflaa
