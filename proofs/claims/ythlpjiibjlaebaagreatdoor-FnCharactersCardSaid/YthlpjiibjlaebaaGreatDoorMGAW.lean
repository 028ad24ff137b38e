/- Merged: AtAny CosSpec SgAx SgAx2 OrCnt. -/
import Derived.Test.YthlpjiibjlaebaaGreatDoorMGAS
import Derived.Test.YthlpjiibjlaebaaGreatDoorMGAQ
import Derived.Test.YthlpjiibjlaebaaGreatDoorSgMath
import Derived.Test.YthlpjiibjlaebaaGreatDoorExtMath
import Derived.Test.YthlpjiibjlaebaaGreatDoorMGAJ
import Derived.Test.YthlpjiibjlaebaaGreatDoorSumMath
import Derived.Test.YthlpjiibjlaebaaGreatDoorMGAG
namespace Go.Proofs.YthlpjiibjlaebaaGreatDoor
open Go.RowKit
set_option maxRecDepth 1000000
theorem at_any (w : World) (a : Option Addr) (len cap : Nat) (i : Int) (hi0 : 0 ≤ i) (hi1 : i ≤ 1000) (hlen : len ≤ 1048576) (hd : CodeIn w a len) :
    Calls Tryz.prog 8 #[.slice a len cap, .int .i64 i] w fun e w' => ∃ x : Int, e = .returned (.int .i64 x) ∧ 0 ≤ x ∧ x ≤ 255 ∧ w = w' := by
  obtain ⟨k, rfl⟩ : ∃ k : Nat, i = k := ⟨i.toNat, by omega⟩
  by_cases hk : k < len
  · have hk2 : (k : Int) < (len : Int) := by omega
    rcases hd with h | ⟨b, off, rfl, hlt, hc⟩
    · omega
    · obtain ⟨x, hx, hcell⟩ := hc k hk
      clear hc
      go_enter Tryz.func8, Tryz.ntmps8
      go_wp2
      go_ret
      exact ⟨_, rfl, by omega, by omega, rfl⟩
  · have hk2 : ¬ (k : Int) < (len : Int) := by omega
    clear hd
    go_enter Tryz.func8, Tryz.ntmps8
    go_wp2
    go_ret
    exact ⟨_, rfl, by omega, by omega, rfl⟩
end Go.Proofs.YthlpjiibjlaebaaGreatDoor

namespace Go.Proofs.YthlpjiibjlaebaaGreatDoor
open Go.RowKit
set_option maxRecDepth 1000000
/-- The least elements of the cosets below k. -/
def repsK (l : List Int) (h : Nat) : Nat → List Nat
  | 0 => []
  | k + 1 => if (orG (fun y => movN l h y) (repsK l h k)).testBit k = true then repsK l h k else repsK l h k ++ [k]
/-- What their cosets hold. -/
def seenK (l : List Int) (h k : Nat) : Nat := orG (fun y => movN l h y) (repsK l h k)
theorem reps_yes {l : List Int} {h k : Nat} (b : (seenK l h k).testBit k = true) : repsK l h (k + 1) = repsK l h k := if_pos b
theorem reps_no {l : List Int} {h k : Nat} (b : (seenK l h k).testBit k = false) : repsK l h (k + 1) = repsK l h k ++ [k] := if_neg (by rw [show orG (fun y => movN l h y) (repsK l h k) = seenK l h k from rfl, b]; simp)
theorem seen_yes {l : List Int} {h k : Nat} (b : (seenK l h k).testBit k = true) : seenK l h (k + 1) = seenK l h k := by unfold seenK; rw [reps_yes b]
theorem seen_no {l : List Int} {h k : Nat} (b : (seenK l h k).testBit k = false) : seenK l h (k + 1) = seenK l h k ||| movN l h k := by unfold seenK; rw [reps_no b, orG_snoc]
theorem reps_len (l : List Int) (h : Nat) : ∀ k, (repsK l h k).length ≤ k
  | 0 => Nat.le_refl _
  | k + 1 => by
    have := reps_len l h k
    unfold repsK
    split
    · omega
    · simp; omega
theorem reps_lt (l : List Int) (h : Nat) : ∀ k, ∀ x ∈ repsK l h k, x < k
  | 0, x, hx => by cases hx
  | k + 1, x, hx => by
    have ih := reps_lt l h k
    unfold repsK at hx
    split at hx
    · exact Nat.lt_succ_of_lt (ih x hx)
    · rcases List.mem_append.1 hx with h1 | h1
      · exact Nat.lt_succ_of_lt (ih x h1)
      · simp at h1; omega
theorem seen_lt {l : List Int} (hg : grpB l = true) (h k : Nat) : seenK l h k < 2 ^ 24 := grp_pow hg (orG_lt _ _ _ (fun x _ => movN_lt hg h x))
/-- The cosets of a subgroup, by their least elements. -/
def cosL (l : List Int) (h : Nat) (R : List Nat) : List Int := R.map fun y => ((movN l h y : Nat) : Int)
theorem cosL_len (l : List Int) (h : Nat) (R : List Nat) : (cosL l h R).length = R.length := by simp [cosL]
theorem cosL_snoc (l : List Int) (h : Nat) (R : List Nat) (k : Nat) : cosL l h (R ++ [k]) = cosL l h R ++ [((movN l h k : Nat) : Int)] := by simp [cosL]
def cosE (l : List Int) (s : Int) : List Int := if sgB l s = true then cosL l s.toNat (repsK l s.toNat (prodI l).toNat) else []
theorem sgB_set {l : List Int} {s : Int} (h : sgB l s = true) : isS l s = true := by
  unfold sgB at h
  exact (Bool.and_eq_true_iff.1 h).1
/-- The number of an element's coset. -/
def numE (l : List Int) (s x : Int) : Int := if sgB l s = true ∧ isE l x = true then (match (repsK l s.toNat (prodI l).toNat).findIdx? (fun y => (movN l s.toNat y).testBit x.toNat) with | some i => ((i : Nat) : Int) | none => -1) else -1
theorem idx_yes {R : List Nat} {p : Nat → Bool} {k : Nat} (hk : k < R.length) (hp : p (R.getD k 0) = true) (hn : ∀ j, j < k → p (R.getD j 0) = false) : R.findIdx? p = some k := by
  rw [List.findIdx?_eq_some_iff_getElem]
  refine ⟨hk, by simpa [List.getD, hk] using hp, fun j hj => ?_⟩
  have h := hn j hj
  have hj2 : j < R.length := by omega
  simpa [List.getD, hj2] using h
theorem idx_no {R : List Nat} {p : Nat → Bool} (hn : ∀ j, j < R.length → p (R.getD j 0) = false) : R.findIdx? p = none := by
  rw [List.findIdx?_eq_none_iff]
  intro x hx
  obtain ⟨j, hj, rfl⟩ := List.getElem_of_mem hx
  have h := hn j hj
  simpa [List.getD, hj] using h
theorem cosL_at {l : List Int} {h : Nat} {R : List Nat} {k : Nat} (hk : k < R.length) : (cosL l h R).getD k 0 = ((movN l h (R.getD k 0) : Nat) : Int) := by
  simp [cosL, List.getD, hk]
end Go.Proofs.YthlpjiibjlaebaaGreatDoor

namespace Go.Proofs.YthlpjiibjlaebaaGreatDoor
open Go.RowKit
theorem sg_and {l : List Int} {s t : Nat} (hs : IsSg l s) (ht : IsSg l t) : IsSg l (s &&& t) := by
  refine ⟨Nat.lt_of_le_of_lt Nat.and_le_left hs.1, ?_, fun x y hx hy => ?_⟩
  · rw [Nat.testBit_and, hs.2.1, ht.2.1]; rfl
  · rw [Nat.testBit_and, Bool.and_eq_true] at hx hy ⊢
    exact ⟨hs.2.2 x y hx.1 hy.1, ht.2.2 x y hx.2 hy.2⟩
theorem upK_add {a b : Nat} (h : ∀ i, ¬ (a.testBit i = true ∧ b.testBit i = true)) : ∀ k, (upK (a ||| b) k).length = (upK a k).length + (upK b k).length
  | 0 => rfl
  | k + 1 => by
    have ih := upK_add h k
    have hk := h k
    rw [upK_succ, upK_succ, upK_succ, Nat.testBit_or]
    cases ha : a.testBit k <;> cases hb : b.testBit k <;> simp_all <;> omega
theorem bits_add {a b : Nat} (h : ∀ i, ¬ (a.testBit i = true ∧ b.testBit i = true)) : (bitsN (a ||| b)).length = (bitsN a).length + (bitsN b).length := upK_add h 24
/-- A coset that is not seen yet meets none that is. -/
theorem seen_apart {l : List Int} (hg : grpB l = true) {h k : Nat} (hs : IsSg l h) (hk : (k : Int) < prodI l) (hR : ∀ y ∈ repsK l h k, (y : Int) < prodI l) (b : (seenK l h k).testBit k = false) :
    ∀ i, ¬ ((seenK l h k).testBit i = true ∧ (movN l h k).testBit i = true) := by
  rintro i ⟨h1, h2⟩
  unfold seenK at h1
  obtain ⟨y, hy, h3⟩ := (orG_bit _ _ _).1 h1
  have e1 := coset_same hg hs (hR y hy) h3
  have e2 := coset_same hg hs hk h2
  have h4 := coset_holds hg hs hk
  rw [e2, ← e1] at h4
  have h5 : (seenK l h k).testBit k = true := by
    unfold seenK
    exact (orG_bit _ _ _).2 ⟨y, hy, h4⟩
  rw [b] at h5
  cases h5
theorem reps_in {l : List Int} {h k : Nat} (hk : (k : Int) ≤ prodI l) : ∀ y ∈ repsK l h k, (y : Int) < prodI l := fun y hy => by
  have := reps_lt l h k y hy
  omega
/-- So many elements are seen. -/
theorem seen_count {l : List Int} (hg : grpB l = true) {h : Nat} (hs : IsSg l h) (hcnt : ∀ y : Nat, (y : Int) < prodI l → (bitsN (movN l h y)).length = (bitsN h).length) : ∀ k : Nat, (k : Int) ≤ prodI l → (bitsN (seenK l h k)).length = (repsK l h k).length * (bitsN h).length
  | 0, _ => by
    have : seenK l h 0 = 0 := rfl
    rw [this]
    have e : (repsK l h 0).length = 0 := rfl
    rw [e, Nat.zero_mul]
    decide
  | k + 1, hk => by
    have ih := seen_count hg hs hcnt k (by omega)
    cases b : (seenK l h k).testBit k with
    | true => rw [seen_yes b, reps_yes b, ih]
    | false =>
      rw [seen_no b, reps_no b, bits_add (seen_apart hg hs (by omega) (reps_in (by omega)) b), ih, hcnt k (by omega), List.length_append, List.length_singleton, Nat.add_mul, Nat.one_mul]
/-- Everything is seen at the end. -/
theorem seen_all {l : List Int} (hg : grpB l = true) {h : Nat} (hs : IsSg l h) : ∀ k : Nat, (k : Int) ≤ prodI l → ∀ i, i < k → (seenK l h k).testBit i = true
  | 0, _, i, hi => by omega
  | k + 1, hk, i, hi => by
    have ih := seen_all hg hs k (by omega)
    by_cases e : i < k
    · cases b : (seenK l h k).testBit k with
      | true => rw [seen_yes b]; exact ih i e
      | false => rw [seen_no b, Nat.testBit_or, ih i e]; rfl
    · obtain rfl : i = k := by omega
      cases b : (seenK l h i).testBit i with
      | true => rw [seen_yes b]; exact b
      | false => rw [seen_no b, Nat.testBit_or, coset_holds hg hs (by omega)]; simp
theorem seen_full {l : List Int} (hg : grpB l = true) {h : Nat} (hs : IsSg l h) : seenK l h (prodI l).toNat = 2 ^ (prodI l).toNat - 1 := by
  have hP := (ords_grp hg).prod
  have hlt : seenK l h (prodI l).toNat < 2 ^ (prodI l).toNat := orG_lt _ _ _ (fun x _ => movN_lt hg h x)
  apply Nat.eq_of_testBit_eq
  intro i
  rw [Nat.testBit_two_pow_sub_one]
  by_cases hi : i < (prodI l).toNat
  · rw [seen_all hg hs _ (by omega) i hi]; simp [hi]
  · rw [Nat.testBit_lt_two_pow (Nat.lt_of_lt_of_le hlt (Nat.pow_le_pow_right (by decide) (by omega)))]; simp [hi]
/-- The cosets' number times the subgroup's size is the order. -/
theorem cos_count {l : List Int} (hg : grpB l = true) {h : Nat} (hs : IsSg l h) (hcnt : ∀ y : Nat, (y : Int) < prodI l → (bitsN (movN l h y)).length = (bitsN h).length) : (repsK l h (prodI l).toNat).length * (bitsN h).length = (prodI l).toNat := by
  have hP := (ords_grp hg).prod
  rw [← seen_count hg hs hcnt (prodI l).toNat (by omega), seen_full hg hs]
  have h1 : ∀ k, k ≤ (prodI l).toNat → (upK (2 ^ (prodI l).toNat - 1) k).length = k := by
    intro k
    induction k with
    | zero => intro _; rfl
    | succ k ih =>
      intro hk
      rw [upK_yes (by rw [Nat.testBit_two_pow_sub_one]; simp; omega), List.length_append, ih (by omega)]; rfl
  rw [← upK_full (k := (prodI l).toNat) (by have := Nat.two_pow_pos (prodI l).toNat; omega) (by omega), h1 _ (Nat.le_refl _)]
end Go.Proofs.YthlpjiibjlaebaaGreatDoor

namespace Go.Proofs.YthlpjiibjlaebaaGreatDoor
open Go.RowKit
theorem clo_self {l : List Int} (hg : grpB l = true) {s : Nat} (hs : IsSg l s) : IsClo l s s := by
  obtain ⟨d, hd⟩ := clo_ex hg (grp_pow hg hs.1)
  have := (hd.self hg hs.1).2 hs
  rwa [this] at hd
theorem and_part {n c : Nat} (h : Part n c) : c &&& n = n := by
  apply Nat.eq_of_testBit_eq
  intro z
  rw [Nat.testBit_and]
  cases hz : n.testBit z with
  | false => simp
  | true => rw [h z hz]; rfl
theorem sg_mod {l : List Int} (hg : grpB l = true) {s : Nat} (hs : IsSg l s) (hcnt : ∀ y : Nat, (y : Int) < prodI l → (bitsN (movN l s y)).length = (bitsN s).length) : (prodI l).toNat % (bitsN s).length = 0 := by
  rw [← cos_count hg hs hcnt, Nat.mul_mod_left]
/-- Generated twice. -/
theorem gen_twice {l : List Int} {a r : Int} (h : GenX l a r) (h0 : 0 ≤ r) : ∃ (n c : Nat), a = (n : Int) ∧ r = (c : Int) ∧ grpB l = true ∧ n < 2 ^ (prodI l).toNat ∧ c < 2 ^ (prodI l).toNat ∧ sgB l r = true ∧ c &&& n = n ∧ GenX l r r := by
  cases hs : isS l a with
  | false =>
    have := h.2 hs
    omega
  | true =>
    obtain ⟨c, rfl, hc⟩ := h.1 hs
    obtain ⟨hg, n, rfl, hn, hn24⟩ := isS_true hs
    rw [Int.toNat_natCast] at hc
    have hsg := hc.sg hg
    have hcs := isS_of hg hc.lt
    refine ⟨n, c, rfl, rfl, hg, hn, hc.lt, (sgB_iff hcs).2 hsg, and_part (hc.holds hg hn), fun _ => ⟨c, rfl, ?_⟩, fun h => ?_⟩
    · rw [Int.toNat_natCast]; exact clo_self hg hsg
    · rw [hcs] at h; cases h
/-- The cosets found so far are apart. -/
theorem reps_apart {l : List Int} (hg : grpB l = true) {h : Nat} (hs : IsSg l h) : ∀ k : Nat, (k : Int) ≤ prodI l → (repsK l h k).Pairwise fun y z => ∀ i, ¬ ((movN l h y).testBit i = true ∧ (movN l h z).testBit i = true)
  | 0, _ => List.Pairwise.nil
  | k + 1, hk => by
    have ih := reps_apart hg hs k (by omega)
    cases b : (seenK l h k).testBit k with
    | true => rw [reps_yes b]; exact ih
    | false =>
      rw [reps_no b, List.pairwise_append]
      refine ⟨ih, by simp, fun y hy z hz i ⟨h1, h2⟩ => ?_⟩
      rw [List.mem_singleton] at hz
      subst hz
      exact seen_apart hg hs (by omega) (reps_in (by omega)) b i ⟨by unfold seenK; exact (orG_bit _ _ _).2 ⟨y, hy, h1⟩, h2⟩
/-- A shift of a subgroup is a coset. -/
theorem mov_cos {l : List Int} (hg : grpB l = true) {h y : Nat} (hs : IsSg l h) (hy : (y : Int) < prodI l) : cosB l ((movN l h y : Nat) : Int) = true := by
  have hO := ords_grp hg
  have hlt := movN_lt hg h y
  have h0 : movN l h y ≠ 0 := fun e => by
    have := coset_holds hg hs hy
    rw [e, Nat.zero_testBit] at this
    cases this
  obtain ⟨k24, hk, _⟩ := low_is (grp_pow hg hlt) h0
  obtain ⟨k, ek⟩ : ∃ k, lowN (movN l h y) = k := ⟨_, rfl⟩
  rw [ek] at k24 hk
  have hkP := el_of hg hlt hk
  have hb := negN_in hO (k : Int)
  obtain ⟨u, hu⟩ := Int.eq_ofNat_of_zero_le hb.1
  have e1 := coset_same hg hs hy hk
  have e2 : movN l (movN l h y) u = h := by
    rw [e1, movN_two hg (grp_pow hg hs.1), ← hu, addN_neg hO]
    exact movN_zero hg hs.1
  unfold cosB
  rw [isS_of hg hlt, Int.toNat_natCast, ek, hu, Int.toNat_natCast, e2, (sgB_iff (isS_of hg hs.1)).2 hs]
  have hp : decide ((0 : Int) < ((movN l h y : Nat) : Int)) = true := by simp; omega
  rw [hp]; rfl
/-- The hull is a coset that holds the set. -/
theorem hull_cos {l : List Int} {s r : Int} (h : HullX l s r) (h0 : 0 ≤ r) : ∃ (n c : Nat), s = (n : Int) ∧ r = (c : Int) ∧ grpB l = true ∧ n < 2 ^ (prodI l).toNat ∧ c < 2 ^ (prodI l).toNat ∧ cosB l r = true ∧ c &&& n = n := by
  by_cases hc : isS l s = true ∧ s ≠ 0
  · obtain ⟨hs, hne⟩ := hc
    obtain ⟨c, hclo, rfl⟩ := h.1 hs hne
    obtain ⟨hg, n, rfl, hn, hn24⟩ := isS_true hs
    rw [Int.toNat_natCast] at hclo ⊢
    have hO := ords_grp hg
    obtain ⟨k24, hk, _⟩ := low_is hn24 (fun e => hne (by omega))
    obtain ⟨k, ek⟩ : ∃ k, lowN n = k := ⟨_, rfl⟩
    rw [ek] at k24 hk hclo ⊢
    have hkP := el_of hg hn hk
    have hb := negN_in hO (k : Int)
    obtain ⟨u, hu⟩ := Int.eq_ofNat_of_zero_le hb.1
    rw [hu, Int.toNat_natCast] at hclo
    have hsg := hclo.sg hg
    refine ⟨n, movN l c k, rfl, rfl, hg, hn, movN_lt hg c k, mov_cos hg hsg hkP, and_part ?_⟩
    have hpt := hclo.holds hg (movN_lt hg n u)
    have hback := shift_back hg hn hu
    intro z hz
    rw [← hback] at hz
    obtain ⟨y, hy, he⟩ := (movN_bit l (grp_pow hg (movN_lt hg n u)) k z).1 hz
    exact (movN_bit l (grp_pow hg hclo.lt) k z).2 ⟨y, hpt y hy, he⟩
  · have := h.2 (by
      cases hs : isS l s with
      | false => exact .inl rfl
      | true => exact .inr (Classical.not_not.1 fun e => hc ⟨hs, e⟩))
    omega
end Go.Proofs.YthlpjiibjlaebaaGreatDoor

namespace Go.Proofs.YthlpjiibjlaebaaGreatDoor
/-- Moved by f, which can be undone: as many elements. -/
theorem orF_count2 {l : List Int} {m : Nat} (hs : isS l (m : Int) = true) (f g : Nat → Int) (hf : ∀ x, 0 ≤ f x ∧ f x < prodI l) (hgf : ∀ x : Nat, (x : Int) < prodI l → g (f x).toNat = (x : Int)) : (bitsN (orF f (bitsN m))).length = (bitsN m).length := by
  obtain ⟨hg, m', e, hm, h24⟩ := isS_true hs
  obtain rfl : m = m' := by omega
  have hp := (ords_grp hg).prod
  have hx : ∀ x ∈ bitsN m, (x : Int) < prodI l := fun x hx => by
    have hb := (upK_mem hx).2
    rcases Nat.lt_or_ge x (prodI l).toNat with h | h
    · omega
    · rw [bit_no hm x h] at hb; cases hb
  have hlt : orF f (bitsN m) < 2 ^ 24 := Nat.lt_of_lt_of_le (orF_lt f (bitsN m) (prodI l).toNat (fun x _ => by have := hf x; omega)) (Nat.pow_le_pow_right (by decide) (by have := (grpB_true hg).2.2; omega))
  apply Nat.le_antisymm
  · have := len_le_of_sub (bitsN (orF f (bitsN m))) ((bitsN m).map fun x => (f x).toNat) (bits_nodup _) (fun y hy => by
      rw [mem_bits hlt, orF_bit] at hy
      obtain ⟨x, hxm, rfl⟩ := hy
      exact List.mem_map_of_mem hxm)
    simpa using this
  · have := len_le_of_sub ((bitsN m)) ((bitsN (orF f (bitsN m))).map fun y => (g y).toNat) (bits_nodup _) (fun x hxm => by
      rw [List.mem_map]
      refine ⟨(f x).toNat, ?_, ?_⟩
      · rw [mem_bits hlt, orF_bit]; exact ⟨x, hxm, rfl⟩
      · rw [hgf x (hx x hxm)]; omega)
    simpa using this
/-- A shift keeps a set's size. -/
theorem mov_cnt {l : List Int} (hg : grpB l = true) {h : Nat} (hs : h < 2 ^ (prodI l).toNat) (y : Nat) : (bitsN (movN l h y)).length = (bitsN h).length := by
  have ho := ords_grp hg
  exact orF_count2 (isS_of hg hs) (fun x => addN l (x : Int) (y : Int)) (fun z => addN l (z : Int) (negN l (y : Int))) (fun x => addN_in ho x y) (fun x hx => by
    have := addN_in ho (x : Int) (y : Int)
    show addN l (((addN l (x : Int) (y : Int)).toNat : Nat) : Int) (negN l (y : Int)) = x
    rw [Int.toNat_of_nonneg this.1, add_neg_back ho (y : Int) (by omega) hx])
end Go.Proofs.YthlpjiibjlaebaaGreatDoor
