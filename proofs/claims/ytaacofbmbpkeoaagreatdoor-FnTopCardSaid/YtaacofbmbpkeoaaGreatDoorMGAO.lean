/- Merged: SubSpec CosSpec. -/
import Derived.Test.YtaacofbmbpkeoaaGreatDoorMGAN
import Derived.Test.YtaacofbmbpkeoaaGreatDoorMGAL
namespace Go.Proofs.YtaacofbmbpkeoaaGreatDoor
open Go.RowKit
set_option maxRecDepth 1000000
theorem sumN24 {l : List Int} (hg : grpB l = true) (s t : Nat) : sumN l s t < 2 ^ 24 := grp_pow hg (sumN_lt hg s t)
set_option maxHeartbeats 4000000 in
theorem sClo (w : World) (a : Option Addr) (l : List Int) (n cap : Nat) (t c : Nat) (ht : t < 2 ^ 24) (hn : n = l.length) (hg : grpB l = true) (hc : IsClo l t c) (hi : Ints w a l) :
    Calls Tryz.prog 109 #[.agg #[.slice a n cap], .int .i64 t] w fun e w' => e = .returned (.int .i64 (c : Nat)) ∧ Below w.heap.size w w' := by
  have HC := Lib.hid ht
  have HG := Lib.hid hg
  have HCL := Lib.hid hc
  clear ht hg hc
  have HI := Lib.hid (ints_alloc hi (.cells #[.slice a n cap] 26))
  have HN := Lib.hid hn
  have C1 := newC w (.slice a n cap) 26 (n := w.heap.size) rfl
  have HB := Lib.hid (Joins.below_alloc1 w (.cells #[.slice a n cap] 26))
  have T0 := Lib.hid (Below.refl (w.alloc (.cells #[.slice a n cap] 26)).heap.size (w.alloc (.cells #[.slice a n cap] 26)))
  clear hi hn
  obtain ⟨v0, HV0⟩ : ∃ v, Hid (sumN l 1 t = v) := ⟨_, Lib.hid rfl⟩
  have HOR := Lib.hid (show bits .or .i64 1 (v0 : Int) = ((1 ||| v0 : Nat) : Int) from orI 1 v0 (by decide) (Nat.le_of_lt (by have := sumN24 HG.out 1 t; rw [HV0.out] at this; exact lt24 this)))
  have HORS := HOR.out
  have HS1 := Lib.hid (show Calls Tryz.prog 43 #[.agg #[.slice a n cap], .int .i64 1, .int .i64 t] (w.alloc (.cells #[.slice a n cap] 26)) fun e w' => e = .returned (.int .i64 (v0 : Nat)) ∧ Below (w.alloc (.cells #[.slice a n cap] 26)).heap.size (w.alloc (.cells #[.slice a n cap] 26)) w' from by rw [← HV0.out]; exact sSumL _ _ l _ _ 1 t (by decide) HC.out HN.out HG.out (HI.out.below rfl T0.out))
  go_enter Tryz.func109, Tryz.ntmps109
  go_wp2_with (go_at_call 43; refine HS1.out.mono ?_; rintro e w2 ⟨rfl, hb2⟩; have T2 := Lib.hid (T0.out.trans (hb2.mono T0.out.size)); have c2 := keepC T2.out (by simp) C1; clear hb2)
  clear HS1 HOR HORS
  go_loopw [5, 6] (fun o nx wr => ∃ s : Nat, CloInv l t s ∧ o = .int .i64 s ∧ nx = .int .i64 ((s ||| sumN l s t : Nat) : Int) ∧ Below w2.heap.size w2 wr) (fun o _ _ => 2 ^ 24 - (intOf o).toNat)
  case atStart => exact ⟨1, cloInv_one HG.out t, rfl, by rw [HV0.out], Below.refl _ _⟩
  case round =>
    obtain ⟨s, hci, rfl, rfl, hbel⟩ := hrel
    have c4 := keepC hbel (World.block_lt_of_cell? w2 _ c2) c2
    have T4 := Lib.hid (T2.out.trans (hbel.mono T2.out.size))
    have HBL := Lib.hid hbel
    have HCI := Lib.hid hci
    have HM := Lib.hid (cloInv_step HG.out HC.out hci)
    have HE := Lib.hid (fun he => cloInv_end HG.out HC.out hci he)
    obtain ⟨m, hmm⟩ : ∃ m, s ||| sumN l s t = m := ⟨_, rfl⟩
    rw [hmm] at HM HE
    rw [hmm]
    clear hbel hci
    by_cases he : m = s
    · have HR := Lib.hid ((HE.out he).one HCL.out)
      subst he
      clear HE HM hmm
      have hmc := HR.out
      clear HR
      subst hmc
      go_wp2
      go_ret
      exact ⟨rfl, HB.out.trans (T4.out.mono (by simp))⟩
    · have hlt : s < m := by rw [← hmm]; exact or_grow (by rw [hmm]; exact he)
      have hne : ((m : Int) == (s : Int)) = false := by
        have : (m : Int) ≠ (s : Int) := by omega
        simpa using this
      have hm24 := grp_pow HG.out HM.out.lt
      have HM24 := Lib.hid hm24
      obtain ⟨v, HV⟩ : ∃ v, Hid (sumN l m t = v) := ⟨_, Lib.hid rfl⟩
      have HOR := Lib.hid (orI m v (lt24 hm24) (Nat.le_of_lt (by have := sumN24 HG.out m t; rw [HV.out] at this; exact lt24 this)))
      have HORS := HOR.out
      clear HE hmm hm24
      have HLT := Lib.hid hlt
      clear hlt
      go_wp2_with (go_at_call 43; refine (sSumL _ _ l _ _ m t HM24.out HC.out HN.out HG.out (HI.out.below rfl T4.out)).mono ?_; rw [HV.out]; rintro e w5 ⟨rfl, hb5⟩)
      go_roundw
      case rel => exact ⟨m, HM.out, rfl, by rw [HV.out], HBL.out.trans (hb5.mono HBL.out.size)⟩
      case measure =>
        have h1 := HLT.out
        have h2 : m < 16777216 := HM24.out
        simp [intOf]; omega
/-- What a set generates, as a number; -1 for no set. -/
def GenX (l : List Int) (a r : Int) : Prop := (isS l a = true → ∃ c : Nat, r = (c : Int) ∧ IsClo l a.toNat c) ∧ (isS l a = false → r = -1)
theorem genX_ex (l : List Int) (a : Int) : ∃ r, GenX l a r := by
  cases h : isS l a with
  | false => exact ⟨-1, (fun h' => by rw [h] at h'; cases h'), fun _ => rfl⟩
  | true =>
    obtain ⟨hg, s, rfl, _, h24⟩ := isS_true h
    obtain ⟨c, hc⟩ := clo_ex hg h24
    exact ⟨c, fun _ => ⟨c, rfl, by simpa using hc⟩, (fun h' => by rw [h] at h'; cases h')⟩
theorem genX_one {l : List Int} {a r s : Int} (h : GenX l a r) (g : GenX l a s) : r = s := by
  cases hs : isS l a with
  | false => rw [h.2 hs, g.2 hs]
  | true =>
    obtain ⟨c, rfl, hc⟩ := h.1 hs
    obtain ⟨d, rfl, hd⟩ := g.1 hs
    rw [hc.one hd]
/-- Whether a number is a subgroup. -/
def sgB (l : List Int) (a : Int) : Bool := isS l a && (a.toNat.testBit 0 && (bitsN a.toNat).all fun x => (bitsN a.toNat).all fun y => a.toNat.testBit (addN l (y : Int) (x : Int)).toNat)
theorem sgB_no {l : List Int} {a : Int} (h : isS l a = false) : sgB l a = false := by unfold sgB; rw [h]; rfl
theorem sgB_iff {l : List Int} {a : Nat} (hs : isS l (a : Int) = true) : sgB l (a : Int) = true ↔ IsSg l a := by
  obtain ⟨hg, s, e, h1, h24⟩ := isS_true hs
  have e' : a = s := by omega
  subst e'
  unfold sgB IsSg Keeps
  rw [hs, Bool.true_and, Int.toNat_natCast, Bool.and_eq_true, List.all_eq_true]
  constructor
  · rintro ⟨h0, hall⟩
    exact ⟨h1, h0, fun x y hx hy => List.all_eq_true.1 (hall x ((mem_bits h24 x).2 hx)) y ((mem_bits h24 y).2 hy)⟩
  · rintro ⟨_, h0, hall⟩
    exact ⟨h0, fun x hx => List.all_eq_true.2 fun y hy => hall x y ((mem_bits h24 x).1 hx) ((mem_bits h24 y).1 hy)⟩
theorem sgB_clo {l : List Int} {a c : Nat} (hs : isS l (a : Int) = true) (hc : IsClo l a c) : sgB l (a : Int) = ((c : Int) == (a : Int)) := by
  obtain ⟨hg, s, e, h1, h24⟩ := isS_true hs
  have e' : a = s := by omega
  subst e'
  have h := (hc.self hg h1).trans (sgB_iff hs).symm
  cases hb : sgB l (a : Int) with
  | true => rw [h.2 hb]; simp
  | false =>
    have : c ≠ a := fun e => by rw [h.1 e] at hb; cases hb
    symm
    simp
    omega
set_option maxHeartbeats 4000000 in
theorem sIsSub (w : World) (a : Option Addr) (l : List Int) (n cap : Nat) (s : Int) (hn : n = l.length) (hm : n ≤ 9223372036854775807) (hi : Ints w a l) :
    Calls Tryz.prog 97 #[.agg #[.slice a n cap], .int .i64 s] w fun e w' => e = .returned (.bool (sgB l s)) ∧ Below w.heap.size w w' := by
  have HI := Lib.hid (ints_alloc hi (.cells #[.slice a n cap] 26))
  have HN := Lib.hid hn
  have C1 := newC w (.slice a n cap) 26 (n := w.heap.size) rfl
  have HB := Lib.hid (Joins.below_alloc1 w (.cells #[.slice a n cap] 26))
  have T0 := Lib.hid (Below.refl (w.alloc (.cells #[.slice a n cap] 26)).heap.size (w.alloc (.cells #[.slice a n cap] 26)))
  clear hi hn
  cases hs : isS l s with
  | false =>
    have HS := Lib.hid hs
    rw [sgB_no hs]
    clear hs
    go_enter Tryz.func97, Tryz.ntmps97
    go_wp2_with (go_at_call 42; refine (sIsSet _ _ _ _ _ _ HN.out hm (HI.out.below rfl T0.out)).mono ?_; rw [HS.out]; rintro e w1 ⟨rfl, hb1⟩; have T1 := Lib.hid (T0.out.trans (hb1.mono T0.out.size)); have c1 := keepC T1.out (by simp) C1; clear hb1)
    go_ret
    exact ⟨rfl, HB.out.trans (T1.out.mono (by simp))⟩
  | true =>
    have HS := Lib.hid hs
    obtain ⟨hg, s, rfl, _, hs24⟩ := isS_true hs
    obtain ⟨c, hc⟩ := clo_ex hg hs24
    rw [sgB_clo hs hc]
    have HG := Lib.hid hg
    have HA := Lib.hid hs24
    have HC := Lib.hid hc
    clear hs hc hg hs24
    go_enter Tryz.func97, Tryz.ntmps97
    go_wp2_with (first
      | (go_at_call 109; refine (sClo _ _ l _ _ s c HA.out HN.out HG.out HC.out (HI.out.below rfl T1.out)).mono ?_; rintro e w2 ⟨rfl, hb2⟩; have T2 := Lib.hid (T1.out.trans (hb2.mono T1.out.size)); have c2 := keepC T2.out (by simp) C1; clear hb2)
      | (go_at_call 42; refine (sIsSet _ _ _ _ _ _ HN.out hm (HI.out.below rfl T0.out)).mono ?_; rw [HS.out]; rintro e w1 ⟨rfl, hb1⟩; have T1 := Lib.hid (T0.out.trans (hb1.mono T0.out.size)); have c1 := keepC T1.out (by simp) C1; clear hb1))
    go_ret
    exact ⟨rfl, HB.out.trans (T2.out.mono (by simp))⟩
/-- The least element of a set that is not empty. -/
def lowN (a : Nat) : Nat := ((List.range 24).find? fun i => a.testBit i).getD 0
theorem low_is {a : Nat} (h : a < 2 ^ 24) (h0 : a ≠ 0) : lowN a < 24 ∧ a.testBit (lowN a) = true ∧ ∀ i, i < lowN a → a.testBit i = false := by
  unfold lowN
  cases hf : (List.range 24).find? fun i => a.testBit i with
  | none =>
    exfalso
    rw [List.find?_eq_none] at hf
    refine h0 (Nat.eq_of_testBit_eq fun i => ?_)
    rw [Nat.zero_testBit]
    by_cases hi : i < 24
    · simpa using hf i (List.mem_range.2 hi)
    · exact bit_no h i (by omega)
  | some k =>
    rw [List.find?_range_eq_some] at hf
    refine ⟨List.mem_range.1 hf.2.1, hf.1, fun i hi => ?_⟩
    simpa using hf.2.2 i hi
/-- Whether a number is a coset. -/
def cosB (l : List Int) (s : Int) : Bool := isS l s && (decide (0 < s) && sgB l (movN l s.toNat (negN l (lowN s.toNat : Nat)).toNat : Nat))
theorem neg_nat {l : List Int} (hg : grpB l = true) (x : Int) : ∃ u : Nat, negN l x = (u : Int) ∧ (u : Int) ≤ 23 := by
  have h := negN_in (ords_grp hg) x
  have h2 := (ords_grp hg).prod.2
  exact ⟨(negN l x).toNat, by omega, by omega⟩
/-- The least coset that holds a set; -1 for no set or the empty one. -/
def HullX (l : List Int) (s r : Int) : Prop := (isS l s = true → s ≠ 0 → ∃ c : Nat, IsClo l (movN l s.toNat (negN l (lowN s.toNat : Nat)).toNat) c ∧ r = (movN l c (lowN s.toNat) : Nat)) ∧ ((isS l s = false ∨ s = 0) → r = -1)
theorem hullX_ex (l : List Int) (s : Int) : ∃ r, HullX l s r := by
  by_cases h : isS l s = true ∧ s ≠ 0
  · obtain ⟨hg, t, rfl, _, h24⟩ := isS_true h.1
    obtain ⟨c, hc⟩ := clo_ex hg (movN_lt24 hg ((t : Int)).toNat (negN l (lowN ((t : Int)).toNat : Nat)).toNat)
    exact ⟨(movN l c (lowN ((t : Int)).toNat) : Nat), fun _ _ => ⟨c, hc, rfl⟩, fun h' => by rcases h' with h' | h' <;> simp_all⟩
  · exact ⟨-1, fun h1 h2 => absurd ⟨h1, h2⟩ h, fun _ => rfl⟩
end Go.Proofs.YtaacofbmbpkeoaaGreatDoor

namespace Go.Proofs.YtaacofbmbpkeoaaGreatDoor
open Go.RowKit
set_option maxRecDepth 1000000
/-- The least elements of the cosets below k. -/
def repsK (l : List Int) (h : Nat) : Nat → List Nat
  | 0 => []
  | k + 1 => if (orG (fun y => movN l h y) (repsK l h k)).testBit k = true then repsK l h k else repsK l h k ++ [k]
/-- What their cosets hold. -/
def seenK (l : List Int) (h k : Nat) : Nat := orG (fun y => movN l h y) (repsK l h k)
theorem reps_yes {l : List Int} {h k : Nat} (b : (seenK l h k).testBit k = true) : repsK l h (k + 1) = repsK l h k := if_pos b
theorem reps_no {l : List Int} {h k : Nat} (b : (seenK l h k).testBit k = false) : repsK l h (k + 1) = repsK l h k ++ [k] := if_neg (by rw [show orG (fun y => movN l h y) (repsK l h k) = seenK l h k from rfl, b]; simp)
theorem seen_yes {l : List Int} {h k : Nat} (b : (seenK l h k).testBit k = true) : seenK l h (k + 1) = seenK l h k := by unfold seenK; rw [reps_yes b]
theorem seen_no {l : List Int} {h k : Nat} (b : (seenK l h k).testBit k = false) : seenK l h (k + 1) = seenK l h k ||| movN l h k := by unfold seenK; rw [reps_no b, orG_snoc]
theorem reps_len (l : List Int) (h : Nat) : ∀ k, (repsK l h k).length ≤ k
  | 0 => Nat.le_refl _
  | k + 1 => by
    have := reps_len l h k
    unfold repsK
    split
    · omega
    · simp; omega
theorem reps_lt (l : List Int) (h : Nat) : ∀ k, ∀ x ∈ repsK l h k, x < k
  | 0, x, hx => by cases hx
  | k + 1, x, hx => by
    have ih := reps_lt l h k
    unfold repsK at hx
    split at hx
    · exact Nat.lt_succ_of_lt (ih x hx)
    · rcases List.mem_append.1 hx with h1 | h1
      · exact Nat.lt_succ_of_lt (ih x h1)
      · simp at h1; omega
theorem seen_lt {l : List Int} (hg : grpB l = true) (h k : Nat) : seenK l h k < 2 ^ 24 := grp_pow hg (orG_lt _ _ _ (fun x _ => movN_lt hg h x))
/-- The cosets of a subgroup, by their least elements. -/
def cosL (l : List Int) (h : Nat) (R : List Nat) : List Int := R.map fun y => ((movN l h y : Nat) : Int)
theorem cosL_len (l : List Int) (h : Nat) (R : List Nat) : (cosL l h R).length = R.length := by simp [cosL]
theorem cosL_snoc (l : List Int) (h : Nat) (R : List Nat) (k : Nat) : cosL l h (R ++ [k]) = cosL l h R ++ [((movN l h k : Nat) : Int)] := by simp [cosL]
def cosE (l : List Int) (s : Int) : List Int := if sgB l s = true then cosL l s.toNat (repsK l s.toNat (prodI l).toNat) else []
theorem sgB_set {l : List Int} {s : Int} (h : sgB l s = true) : isS l s = true := by
  unfold sgB at h
  exact (Bool.and_eq_true_iff.1 h).1
/-- The number of an element's coset. -/
def numE (l : List Int) (s x : Int) : Int := if sgB l s = true ∧ isE l x = true then (match (repsK l s.toNat (prodI l).toNat).findIdx? (fun y => (movN l s.toNat y).testBit x.toNat) with | some i => ((i : Nat) : Int) | none => -1) else -1
theorem idx_yes {R : List Nat} {p : Nat → Bool} {k : Nat} (hk : k < R.length) (hp : p (R.getD k 0) = true) (hn : ∀ j, j < k → p (R.getD j 0) = false) : R.findIdx? p = some k := by
  rw [List.findIdx?_eq_some_iff_getElem]
  refine ⟨hk, by simpa [List.getD, hk] using hp, fun j hj => ?_⟩
  have h := hn j hj
  have hj2 : j < R.length := by omega
  simpa [List.getD, hj2] using h
theorem idx_no {R : List Nat} {p : Nat → Bool} (hn : ∀ j, j < R.length → p (R.getD j 0) = false) : R.findIdx? p = none := by
  rw [List.findIdx?_eq_none_iff]
  intro x hx
  obtain ⟨j, hj, rfl⟩ := List.getElem_of_mem hx
  have h := hn j hj
  simpa [List.getD, hj] using h
theorem cosL_at {l : List Int} {h : Nat} {R : List Nat} {k : Nat} (hk : k < R.length) : (cosL l h R).getD k 0 = ((movN l h (R.getD k 0) : Nat) : Int) := by
  simp [cosL, List.getD, hk]
end Go.Proofs.YtaacofbmbpkeoaaGreatDoor
