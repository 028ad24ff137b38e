/- What the program reckons in chapter 10, as numbers: runs that take elements away, the set of a set's steps, its least element, the cases of Vosper. Plain mathematics. -/
import Derived.Test.YtfkleihnafeoeaaGreatDoorVoDef
namespace Go.Proofs.YtfkleihnafeoeaaGreatDoor
theorem run_more {l : List Int} {a d f x s : Nat} (h : a.testBit x = true) (h2 : s.testBit x = false) : runN l a d (f + 1) x s = runN l a d f (adN l x d) (s ||| 2 ^ x) + 1 := by
  show (if (a.testBit x && !s.testBit x) = true then runN l a d f (adN l x d) (s ||| 2 ^ x) + 1 else 0) = _
  rw [h, h2, if_pos (show (true && !false) = true from rfl)]
theorem run_stop {l : List Int} {a d x s : Nat} (h : (a.testBit x && !s.testBit x) = false) : ∀ f, runN l a d f x s = 0
  | 0 => rfl
  | f + 1 => by
    show (if (a.testBit x && !s.testBit x) = true then runN l a d f (adN l x d) (s ||| 2 ^ x) + 1 else 0) = _
    rw [h, if_neg (by simp)]
/-- Each element of a run is in the set and new. -/
theorem run_all {l : List Int} {a d x : Nat} : ∀ f k m, m ≤ runN l a d f (stp (adN l) d x k) (prgN l x d k) → ∀ i, i < m → a.testBit (stp (adN l) d x (k + i)) = true ∧ (prgN l x d (k + i)).testBit (stp (adN l) d x (k + i)) = false
  | 0, k, m, h, i, hi => by
    have : m ≤ 0 := h
    omega
  | f + 1, k, m, h, i, hi => by
    cases g : (a.testBit (stp (adN l) d x k) && !(prgN l x d k).testBit (stp (adN l) d x k)) with
    | false =>
      rw [run_stop g] at h
      omega
    | true =>
      rw [Bool.and_eq_true, Bool.not_eq_true'] at g
      rw [run_more g.1 g.2] at h
      cases i with
      | zero => exact g
      | succ j =>
        have := run_all f (k + 1) (m - 1) (by show m - 1 ≤ runN l a d f (adN l (stp (adN l) d x k) d) (prgN l x d k ||| 2 ^ stp (adN l) d x k); omega) j (by omega)
        rw [show k + (j + 1) = k + 1 + j by omega]
        exact this
theorem sub_same {s a : Nat} (hs : s < 2 ^ 24) (ha : a < 2 ^ 24) (h : ∀ i, s.testBit i = true → a.testBit i = true) (hl : (bitsN s).length = (bitsN a).length) : s = a := by
  refine bits_same (fun z => ⟨h z, fun hz => ?_⟩)
  cases hsz : s.testBit z with
  | true => rfl
  | false =>
    have hz24 : z < 24 := by
      rcases Nat.lt_or_ge z 24 with q | q
      · exact q
      · rw [Nat.testBit_lt_two_pow (Nat.lt_of_lt_of_le ha (Nat.pow_le_pow_right (by decide) q))] at hz
        cases hz
    have h1 := or_len hs hz24 hsz
    have h2 := sub_len (s := s ||| 2 ^ z) (a := a) (Nat.or_lt_two_pow hs (Nat.pow_lt_pow_right (by decide) hz24)) ha (fun i hi => by
      rw [Nat.testBit_or, Bool.or_eq_true, Nat.testBit_two_pow] at hi
      rcases hi with hi | hi
      · exact h i hi
      · rw [← of_decide_eq_true hi]; exact hz)
    omega
theorem prg_full {l : List Int} (hg : grpB l = true) {x d : Nat} (hx : x < (prodI l).toNat) : ∀ n, (∀ i, i < n → (prgN l x d i).testBit (stp (adN l) d x i) = false) → (bitsN (prgN l x d n)).length = n
  | 0, _ => by
    show (bitsN 0).length = 0
    decide
  | n + 1, h => by
    have ih := prg_full hg hx (d := d) n (fun i hi => h i (by omega))
    have hN := (ords_grp hg).prod
    have hs := grp_pow hg (prg_lt hg hx (d := d) n)
    have h24 : stp (adN l) d x n < 24 := by have := stp_lt hg hx (d := d) n; omega
    show (bitsN (prgN l x d n ||| 2 ^ stp (adN l) d x n)).length = _
    rw [or_len hs h24 (h n (by omega)), ih]
/-- A run through the whole set, from some element, is what makes a step fine. -/
theorem fine_run {l : List Int} (hg : grpB l = true) {a d : Nat} (ha : a < 2 ^ (prodI l).toNat) (h0 : a ≠ 0) : fineB l a d = true ↔ ∃ x, x < (prodI l).toNat ∧ runN l a d 24 x 0 = (bitsN a).length := by
  have ha24 := grp_pow hg ha
  have hp := (ords_grp hg).prod
  constructor
  · intro h
    obtain ⟨x, hx, e⟩ := (fine_iff ha24).1 h
    have hxN : x < (prodI l).toNat := by have := el_of hg ha hx; omega
    refine ⟨x, hxN, Nat.le_antisymm ?_ ?_⟩
    · have := run_le (l := l) (d := d) ha24 24 x 0 (by decide) (fun i hi => by simp at hi)
      exact Nat.le_trans (Nat.le_add_right _ _) this
    · exact run_ge hg hxN (d := d) rfl e (bitsN a).length 0 24 (by omega) (upK_len a 24)
  · rintro ⟨x, hx, e⟩
    have hall := run_all (l := l) (a := a) (d := d) (x := x) 24 0 (bitsN a).length (by show _ ≤ runN l a d 24 x 0; omega)
    simp only [Nat.zero_add] at hall
    have hlen := prg_full hg hx (d := d) (bitsN a).length (fun i hi => (hall i hi).2)
    have hpos : 0 < (bitsN a).length := by obtain ⟨i, hi⟩ := bit_ex h0; exact List.length_pos_of_mem ((mem_bits ha24 i).2 hi)
    refine (fine_iff ha24).2 ⟨x, (hall 0 hpos).1, sub_same (grp_pow hg (prg_lt hg hx _)) ha24 (fun i hi => ?_) hlen⟩
    obtain ⟨j, hj, rfl⟩ := (prg_bit l x d _ i).1 hi
    exact (hall j hj).1
/-- What is left of a set when a run's first elements are taken away. -/
def rsK (l : List Int) (a x d : Nat) : Nat → Nat
  | 0 => a
  | k + 1 => woN (rsK l a x d k) (stp (adN l) d x k)
theorem rs_bit (l : List Int) (a x d : Nat) : ∀ k i, (rsK l a x d k).testBit i = (a.testBit i && !(prgN l x d k).testBit i)
  | 0, i => by
    show a.testBit i = (a.testBit i && !(0 : Nat).testBit i)
    simp
  | k + 1, i => by
    show (woN (rsK l a x d k) (stp (adN l) d x k)).testBit i = (a.testBit i && !(prgN l x d k ||| 2 ^ stp (adN l) d x k).testBit i)
    rw [woN_bit, rs_bit l a x d k i, Nat.testBit_or, Nat.testBit_two_pow]
    by_cases h : stp (adN l) d x k = i
    · subst h
      simp
    · have h2 : i ≠ stp (adN l) d x k := fun e => h e.symm
      simp [h, h2]
theorem rs_le (l : List Int) (a x d : Nat) {n : Nat} (ha : a < 2 ^ n) : ∀ k, rsK l a x d k < 2 ^ n
  | 0 => ha
  | k + 1 => woN_le _ _ (rs_le l a x d ha k)
theorem wo_len {s x : Nat} (h : s.testBit x = true) (hs : s < 2 ^ 24) : (bitsN (woN s x)).length + 1 = (bitsN s).length := by
  have hx : x < 24 := by
    rcases Nat.lt_or_ge x 24 with q | q
    · exact q
    · rw [Nat.testBit_lt_two_pow (Nat.lt_of_lt_of_le hs (Nat.pow_le_pow_right (by decide) q))] at h
      cases h
  have hw : woN s x < 2 ^ 24 := woN_le _ _ hs
  have h1 := or_len hw hx (by rw [woN_bit]; simp)
  rw [← h1, show woN s x ||| 2 ^ x = s from bits_same (fun i => by
    rw [Nat.testBit_or, woN_bit, Nat.testBit_two_pow, Bool.or_eq_true]
    by_cases e : x = i
    · subst e
      simp [h]
    · have e2 : i ≠ x := fun q => e q.symm
      simp [e, e2])]
/-- The state of a run after k steps. -/
structure RunAt (l : List Int) (a x d k : Nat) : Prop where
  tot : runN l a d 24 x 0 = k + runN l a d (24 - k) (stp (adN l) d x k) (prgN l x d k)
  cnt : (bitsN (rsK l a x d k)).length + k = (bitsN a).length
theorem runAt_zero (l : List Int) (a x d : Nat) : RunAt l a x d 0 := ⟨by show _ = 0 + runN l a d 24 x 0; omega, rfl⟩
theorem runAt_le {l : List Int} {a x d k : Nat} (h : RunAt l a x d k) : k ≤ 24 := by
  have := h.cnt
  have : (bitsN a).length ≤ 24 := upK_len a 24
  omega
theorem runAt_next {l : List Int} {a x d k : Nat} (ha : a < 2 ^ 24) (h : RunAt l a x d k) (hb : (rsK l a x d k).testBit (stp (adN l) d x k) = true) : RunAt l a x d (k + 1) := by
  have hr := wo_len hb (rs_le l a x d ha k)
  have hc := h.cnt
  have ht := h.tot
  have ha24 : (bitsN a).length ≤ 24 := upK_len a 24
  rw [rs_bit, Bool.and_eq_true, Bool.not_eq_true'] at hb
  obtain ⟨f, hf⟩ : ∃ f, 24 - k = f + 1 := ⟨24 - k - 1, by omega⟩
  rw [hf, run_more hb.1 hb.2] at ht
  refine ⟨?_, ?_⟩
  · rw [show 24 - (k + 1) = f by omega]
    show _ = k + 1 + runN l a d f (adN l (stp (adN l) d x k) d) (prgN l x d k ||| 2 ^ stp (adN l) d x k)
    omega
  · show (bitsN (woN (rsK l a x d k) (stp (adN l) d x k))).length + (k + 1) = _
    omega
theorem runAt_end {l : List Int} {a x d k : Nat} (h : RunAt l a x d k) (hb : (rsK l a x d k).testBit (stp (adN l) d x k) = false) : runN l a d 24 x 0 = k := by
  have ht := h.tot
  rw [rs_bit] at hb
  rw [run_stop hb] at ht
  omega
/-- The steps of a set, as a set: all elements, those that are not fine taken away one by one. -/
def dsK (l : List Int) (a : Nat) : Nat → Nat
  | 0 => 2 ^ (prodI l).toNat - 1
  | k + 1 => if fineB l a k = true then dsK l a k else woN (dsK l a k) k
def dsN (l : List Int) (a : Nat) : Nat := dsK l a (prodI l).toNat
theorem ds_yes {l : List Int} {a k : Nat} (h : fineB l a k = true) : dsK l a (k + 1) = dsK l a k := by
  show (if fineB l a k = true then dsK l a k else woN (dsK l a k) k) = _
  rw [if_pos h]
theorem ds_no {l : List Int} {a k : Nat} (h : fineB l a k = false) : dsK l a (k + 1) = woN (dsK l a k) k := by
  show (if fineB l a k = true then dsK l a k else woN (dsK l a k) k) = _
  rw [if_neg (by simp [h])]
theorem ds_lt (l : List Int) (a : Nat) : ∀ k, dsK l a k < 2 ^ (prodI l).toNat
  | 0 => by
    have := Nat.two_pow_pos (prodI l).toNat
    show 2 ^ (prodI l).toNat - 1 < _
    omega
  | k + 1 => by
    show (if fineB l a k = true then dsK l a k else woN (dsK l a k) k) < _
    by_cases h : fineB l a k = true
    · rw [if_pos h]; exact ds_lt l a k
    · rw [if_neg h]; exact woN_le _ _ (ds_lt l a k)
theorem ds_bit (l : List Int) (a : Nat) : ∀ k i, (dsK l a k).testBit i = true ↔ i < (prodI l).toNat ∧ (i < k → fineB l a i = true)
  | 0, i => by
    show (2 ^ (prodI l).toNat - 1).testBit i = true ↔ _
    rw [Nat.testBit_two_pow_sub_one, decide_eq_true_eq]
    exact ⟨fun h => ⟨h, fun q => by omega⟩, fun h => h.1⟩
  | k + 1, i => by
    cases h : fineB l a k with
    | true =>
      rw [ds_yes h, ds_bit l a k i]
      constructor
      · rintro ⟨h1, h2⟩
        refine ⟨h1, fun q => ?_⟩
        by_cases e : i = k
        · rw [e]; exact h
        · exact h2 (by omega)
      · rintro ⟨h1, h2⟩
        exact ⟨h1, fun q => h2 (by omega)⟩
    | false =>
      rw [ds_no h, woN_bit, Bool.and_eq_true, ds_bit l a k i, decide_eq_true_eq]
      constructor
      · rintro ⟨⟨h1, h2⟩, h3⟩
        exact ⟨h1, fun q => h2 (by omega)⟩
      · rintro ⟨h1, h2⟩
        refine ⟨⟨h1, fun q => h2 (by omega)⟩, fun e => ?_⟩
        rw [← e, h2 (by omega)] at h
        cases h
theorem dsN_bit (l : List Int) (a i : Nat) : (dsN l a).testBit i = (decide (i < (prodI l).toNat) && fineB l a i) := by
  refine Bool.eq_iff_iff.2 ?_
  unfold dsN
  rw [ds_bit, Bool.and_eq_true, decide_eq_true_eq]
  exact ⟨fun h => ⟨h.1, h.2 h.1⟩, fun h => ⟨h.1, fun _ => h.2⟩⟩
theorem bits_ds {l : List Int} (hg : grpB l = true) (a : Nat) : bitsN (dsN l a) = difL l a := by
  have hp := (ords_grp hg).prod
  rw [← upK_full (a := dsN l a) (k := (prodI l).toNat) (ds_lt l a _) (show (prodI l).toNat ≤ 24 by omega)]
  unfold upK difL
  refine List.filter_congr (fun i hi => ?_)
  have hi := List.mem_range.1 hi
  show (dsN l a).testBit i = _
  rw [dsN_bit, decide_eq_true hi, Bool.true_and]
theorem dfs_yes {l : List Int} {m : Nat} (hs : isS l (m : Int) = true) (h0 : (m : Int) ≠ 0) : dfsE l (m : Int) = (bitsN (dsN l m)).map (fun (x : Nat) => (x : Int)) := by
  obtain ⟨hg, _⟩ := isS_true hs
  unfold dfsE
  rw [if_pos (by rw [hs]; simpa using h0), bits_ds hg, Int.toNat_natCast]
/-- The least element that both have. -/
theorem com_bits {l : List Int} {a b : Nat} (hsa : isS l (a : Int) = true) (h0 : (a : Int) ≠ 0) (hsb : isS l (b : Int) = true) (h1 : (b : Int) ≠ 0) : comO l (a : Int) (b : Int) = (bitsN (dsN l a &&& dsN l b)).head?.map (fun (x : Nat) => (x : Int)) := by
  obtain ⟨hg, _⟩ := isS_true hsa
  have hp := (ords_grp hg).prod
  have hA : dsN l a < 2 ^ 24 := grp_pow hg (ds_lt l a _)
  have hB : dsN l b < 2 ^ 24 := grp_pow hg (ds_lt l b _)
  unfold comO
  rw [dfs_yes hsa h0, dfs_yes hsb h1, List.find?_map]
  congr 1
  rw [← List.head?_filter]
  congr 1
  unfold bitsN upK
  rw [List.filter_filter]
  refine List.filter_congr (fun i _ => ?_)
  show ((((bitsN (dsN l b)).map (fun (x : Nat) => (x : Int))).contains (i : Int)) && (dsN l a).testBit i) = (dsN l a &&& dsN l b).testBit i
  rw [Nat.testBit_and, Bool.and_comm]
  congr 1
  refine Bool.eq_iff_iff.2 ?_
  rw [List.contains_iff_mem, List.mem_map]
  constructor
  · rintro ⟨j, hj, e⟩
    have : j = i := by omega
    subst this
    exact (mem_bits hB j).1 hj
  · intro h
    exact ⟨i, (mem_bits hB i).2 h, rfl⟩
theorem com_none {l : List Int} {a b : Int} (h : neB l a b = false) : comO l a b = none := by
  unfold comO
  cases hd : dfsE l a with
  | nil => rfl
  | cons x t =>
    have hx : x ∈ dfsE l a := by rw [hd]; exact List.mem_cons_self
    obtain ⟨hg, m, _, rfl, _, h0, hm, _, _⟩ := dfs_mem hx
    have hbn : dfsE l b = [] := by
      cases hb : dfsE l b with
      | nil => rfl
      | cons y u =>
        exfalso
        have hy : y ∈ dfsE l b := by rw [hb]; exact List.mem_cons_self
        obtain ⟨_, n, _, rfl, _, h1, hn, _, _⟩ := dfs_mem hy
        have h2 : neB l (m : Int) (n : Int) = true := by
          unfold neB two
          rw [isS_of hg hm, isS_of hg hn]
          simp [h0, h1]
        rw [h2] at h
        cases h
    rw [hbn]
    exact List.find?_eq_none.2 (fun y _ => by simp)
theorem mx_all {f : Nat → Nat} {c : Nat} : ∀ n, mxN f n ≤ c ↔ ∀ i, i < n → f i ≤ c
  | 0 => ⟨fun _ i hi => by omega, fun _ => Nat.zero_le _⟩
  | n + 1 => by
    show max (mxN f n) (f n) ≤ c ↔ _
    rw [Nat.max_le, mx_all n]
    constructor
    · rintro ⟨h1, h2⟩ i hi
      by_cases e : i = n
      · rw [e]; exact h2
      · exact h1 i (by omega)
    · intro h
      exact ⟨fun i hi => h i (by omega), h n (by omega)⟩
theorem lng_swap {l : List Int} (hg : grpB l = true) {a : Nat} (ha : a < 2 ^ (prodI l).toNat) : lngN l a = mxN (fun d => mxN (fun x => runN l a d 24 x 0) (prodI l).toNat) (prodI l).toNat := by
  have ha24 := grp_pow hg ha
  have hp := (ords_grp hg).prod
  have key : ∀ c, lngN l a ≤ c ↔ mxN (fun d => mxN (fun x => runN l a d 24 x 0) (prodI l).toNat) (prodI l).toNat ≤ c := fun c => by
    unfold lngN
    rw [mx_all, mx_all]
    constructor
    · intro h d hd
      rw [mx_all]
      intro x hx
      cases hb : a.testBit x with
      | false =>
        rw [run_stop (by rw [hb]; rfl)]
        exact Nat.zero_le _
      | true =>
        obtain ⟨i, hi, ei⟩ := List.getElem_of_mem ((mem_bits ha24 x).2 hb)
        have h1 := (mx_all _).1 (h i hi) d hd
        rw [show (bitsN a).getD i 0 = x by simp [List.getD, List.getElem?_eq_getElem hi, ei]] at h1
        exact h1
    · intro h i hi
      rw [mx_all]
      intro d hd
      have hm : (bitsN a).getD i 0 ∈ bitsN a := by
        rw [List.getD, List.getElem?_eq_getElem hi]
        exact List.getElem_mem hi
      have hx := el_of hg ha ((mem_bits ha24 _).1 hm)
      exact (mx_all _).1 (h d hd) _ (by omega)
  exact Nat.le_antisymm ((key _).2 (Nat.le_refl _)) ((key _).1 (Nat.le_refl _))
/-- A number is a prime number just where its least divisor is itself. -/
theorem prm_ld {l : List Int} (hg : grpB l = true) : prmB l = (decide (1 < (prodI l).toNat) && (((ldN (prodI l).toNat : Nat) : Int) == (((prodI l).toNat : Nat) : Int))) := by
  have hp := (ords_grp hg).prod
  refine Bool.eq_iff_iff.2 ?_
  rw [Bool.and_eq_true, decide_eq_true_eq, beq_iff_eq]
  constructor
  · intro h
    obtain ⟨_, h2, h3⟩ := prm_yes h
    obtain ⟨q1, q2, q3, _, q5⟩ := ldS_div (P := (prodI l).toNat) (by omega) ((prodI l).toNat - 1) (Nat.le_refl _)
    have h4 : 2 ≤ ldN (prodI l).toNat := q5 h2
    rcases h3 _ (show ldN (prodI l).toNat ∣ (prodI l).toNat from q1) with h5 | h5
    · omega
    · exact ⟨by omega, by omega⟩
  · rintro ⟨h1, h2⟩
    unfold prmB
    rw [hg, Bool.true_and, Bool.and_eq_true, List.all_eq_true]
    refine ⟨decide_eq_true (by omega), fun k hk => ?_⟩
    have hk := List.mem_range.1 hk
    rw [Bool.or_eq_true, Bool.not_eq_true', beq_eq_false_iff_ne]
    by_cases e : k < 2
    · exact .inl (decide_eq_true e)
    · refine .inr (fun e0 => ?_)
      have := ldN_least (P := (prodI l).toNat) (by omega) k (Nat.dvd_of_mod_eq_zero e0) (by omega)
      omega
theorem full_len {l : List Int} (hg : grpB l = true) {s : Nat} (hs : s < 2 ^ (prodI l).toNat) : (((s : Nat) : Int) == ((2 ^ (prodI l).toNat : Nat) : Int) - 1) = (((bitsN s).length : Int) == prodI l) := by
  have hp := (ords_grp hg).prod
  have hpos := Nat.two_pow_pos (prodI l).toNat
  have hf : 2 ^ (prodI l).toNat - 1 < 2 ^ (prodI l).toNat := by omega
  have e1 := cd_bits hf (by omega)
  have e2 := cd_bits hs (by omega)
  have e3 : cd (prodI l).toNat (fun i => (2 ^ (prodI l).toNat - 1).testBit i) = (prodI l).toNat := by
    have e4 := cd_congr (N := (prodI l).toNat) (P := fun i => (2 ^ (prodI l).toNat - 1).testBit i) (Q := fun _ => true) (fun i hi => by
      show (2 ^ (prodI l).toNat - 1).testBit i = true
      rw [Nat.testBit_two_pow_sub_one, decide_eq_true hi])
    rw [e4, cd_full]
  refine Bool.eq_iff_iff.2 ?_
  rw [beq_iff_eq, beq_iff_eq]
  constructor
  · intro h
    have : s = 2 ^ (prodI l).toNat - 1 := by omega
    rw [this]
    omega
  · intro h
    have := sub_same (grp_pow hg hs) (grp_pow hg hf) (fun i hi => by
      have hi2 := el_of hg hs hi
      rw [Nat.testBit_two_pow_sub_one]
      exact decide_eq_true (by omega)) (by omega)
    omega
end Go.Proofs.YtfkleihnafeoeaaGreatDoor
