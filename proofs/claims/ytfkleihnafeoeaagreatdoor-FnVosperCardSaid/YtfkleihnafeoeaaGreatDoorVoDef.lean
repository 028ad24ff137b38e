/- The values of chapter 10's functions: progressions as sets, the steps of a set, runs, the cases of Vosper; what the law asks of them. Plain mathematics. -/
import Derived.Test.YtfkleihnafeoeaaGreatDoorKnDef
namespace Go.Proofs.YtfkleihnafeoeaaGreatDoor
/-- n elements from x on, by the step d, as a set. -/
def prgN (l : List Int) (x d : Nat) : Nat → Nat
  | 0 => 0
  | n + 1 => prgN l x d n ||| 2 ^ stp (adN l) d x n
theorem prg_bit (l : List Int) (x d : Nat) : ∀ n z, (prgN l x d n).testBit z = true ↔ ∃ i, i < n ∧ stp (adN l) d x i = z
  | 0, z => by
    show (0 : Nat).testBit z = true ↔ _
    simp
  | n + 1, z => by
    show (prgN l x d n ||| 2 ^ stp (adN l) d x n).testBit z = true ↔ _
    rw [Nat.testBit_or, Bool.or_eq_true, prg_bit l x d n z, Nat.testBit_two_pow]
    constructor
    · rintro (⟨i, hi, e⟩ | h)
      · exact ⟨i, by omega, e⟩
      · exact ⟨n, by omega, of_decide_eq_true h⟩
    · rintro ⟨i, hi, e⟩
      by_cases h : i = n
      · subst h
        exact .inr (decide_eq_true e)
      · exact .inl ⟨i, by omega, e⟩
theorem stp_lt {l : List Int} (hg : grpB l = true) {x d : Nat} (hx : x < (prodI l).toNat) : ∀ i, stp (adN l) d x i < (prodI l).toNat
  | 0 => hx
  | _ + 1 => (abel_grp hg).lt _ _
theorem prg_lt {l : List Int} (hg : grpB l = true) {x d : Nat} (hx : x < (prodI l).toNat) (n : Nat) : prgN l x d n < 2 ^ (prodI l).toNat := by
  refine Nat.lt_pow_two_of_testBit _ (fun i hi => ?_)
  cases h : (prgN l x d n).testBit i with
  | false => rfl
  | true =>
    obtain ⟨j, _, e⟩ := (prg_bit l x d n i).1 h
    have := stp_lt hg hx (d := d) j
    omega
def fineB (l : List Int) (a d : Nat) : Bool := (bitsN a).any fun x => prgN l x d (bitsN a).length == a
theorem fine_iff {l : List Int} {a d : Nat} (ha : a < 2 ^ 24) : fineB l a d = true ↔ ∃ x, a.testBit x = true ∧ prgN l x d (bitsN a).length = a := by
  unfold fineB
  rw [List.any_eq_true]
  constructor
  · rintro ⟨x, hx, e⟩
    exact ⟨x, (mem_bits ha x).1 hx, beq_iff_eq.1 e⟩
  · rintro ⟨x, hx, e⟩
    exact ⟨x, (mem_bits ha x).2 hx, beq_iff_eq.2 e⟩
def difL (l : List Int) (a : Nat) : List Nat := (List.range (prodI l).toNat).filter (fineB l a)
def dfsE (l : List Int) (a : Int) : List Int := if (isS l a && !(a == 0)) = true then (difL l a.toNat).map (fun (x : Nat) => (x : Int)) else []
theorem difL_mem {l : List Int} {a d : Nat} : d ∈ difL l a ↔ d < (prodI l).toNat ∧ fineB l a d = true := by
  unfold difL
  rw [List.mem_filter, List.mem_range]
/-- Steps back are steps by the negative. -/
theorem stp_back {l : List Int} (hg : grpB l = true) {x d : Nat} (hx : x < (prodI l).toNat) (m : Nat) : ∀ i, i ≤ m → stp (adN l) (nnN l d) (stp (adN l) d x m) i = stp (adN l) d x (m - i)
  | 0, _ => rfl
  | i + 1, h => by
    show adN l (stp (adN l) (nnN l d) (stp (adN l) d x m) i) (nnN l d) = _
    rw [stp_back hg hx m i (by omega)]
    obtain ⟨k, hk⟩ : ∃ k, m - i = k + 1 := ⟨m - i - 1, by omega⟩
    rw [hk, show m - (i + 1) = k by omega]
    exact ab_back (abel_grp hg) d (stp_lt hg hx k)
theorem fine_neg {l : List Int} (hg : grpB l = true) {a d : Nat} (ha : a < 2 ^ (prodI l).toNat) (h : fineB l a d = true) : fineB l a (nnN l d) = true := by
  have ha24 := grp_pow hg ha
  obtain ⟨x, hx, e⟩ := (fine_iff ha24).1 h
  have hxN : x < (prodI l).toNat := by have := el_of hg ha hx; have := (ords_grp hg).prod; omega
  have hn : 0 < (bitsN a).length := List.length_pos_of_mem ((mem_bits ha24 x).2 hx)
  obtain ⟨n, hl⟩ : ∃ n, (bitsN a).length = n + 1 := ⟨(bitsN a).length - 1, by omega⟩
  rw [hl] at e
  refine (fine_iff ha24).2 ⟨stp (adN l) d x n, ?_, ?_⟩
  · rw [← e]
    exact (prg_bit l x d (n + 1) _).2 ⟨n, by omega, rfl⟩
  · rw [hl]
    refine (bits_same (fun z => ?_)).trans e
    rw [prg_bit, prg_bit]
    constructor
    · rintro ⟨i, hi, h2⟩
      exact ⟨n - i, by omega, by rw [← stp_back hg hxN n i (by omega)]; exact h2⟩
    · rintro ⟨i, hi, h2⟩
      exact ⟨n - i, by omega, by rw [stp_back hg hxN n (n - i) (by omega), show n - (n - i) = i by omega]; exact h2⟩
/-- How many elements follow one another from x on within a, none of them in s. -/
def runN (l : List Int) (a d : Nat) : Nat → Nat → Nat → Nat
  | 0, _, _ => 0
  | f + 1, x, s => if (a.testBit x && !s.testBit x) = true then runN l a d f (adN l x d) (s ||| 2 ^ x) + 1 else 0
theorem or_len {s x : Nat} (hs : s < 2 ^ 24) (hx : x < 24) (h : s.testBit x = false) : (bitsN (s ||| 2 ^ x)).length = (bitsN s).length + 1 := by
  have h2 : s ||| 2 ^ x < 2 ^ 24 := Nat.or_lt_two_pow hs (Nat.pow_lt_pow_right (by decide) hx)
  rw [← cd_bits hs (Nat.le_refl 24), ← cd_bits h2 (Nat.le_refl 24)]
  have e := cd_or 24 (fun i => s.testBit i) (fun i => decide (x = i))
  rw [cd_single hx] at e
  have e1 : cd 24 (fun i => s.testBit i || decide (x = i)) = cd 24 (fun i => (s ||| 2 ^ x).testBit i) := cd_congr (fun i _ => by rw [Nat.testBit_or, Nat.testBit_two_pow])
  have e2 : cd 24 (fun i => s.testBit i && decide (x = i)) = 0 := by
    rcases Nat.eq_zero_or_pos (cd 24 (fun i => s.testBit i && decide (x = i))) with g | g
    · exact g
    · obtain ⟨z, _, hz⟩ := cd_ex g
      rw [Bool.and_eq_true] at hz
      have := of_decide_eq_true hz.2
      subst this
      rw [h] at hz
      cases hz.1
  omega
theorem sub_len {s a : Nat} (hs : s < 2 ^ 24) (ha : a < 2 ^ 24) (h : ∀ i, s.testBit i = true → a.testBit i = true) : (bitsN s).length ≤ (bitsN a).length := by
  rw [← cd_bits hs (Nat.le_refl 24), ← cd_bits ha (Nat.le_refl 24)]
  exact cd_le (fun i _ hi => h i hi)
theorem run_le {l : List Int} {a d : Nat} (ha : a < 2 ^ 24) : ∀ f x s, s < 2 ^ 24 → (∀ i, s.testBit i = true → a.testBit i = true) → runN l a d f x s + (bitsN s).length ≤ (bitsN a).length
  | 0, _, s, hs, h => by
    show 0 + _ ≤ _
    have := sub_len hs ha h
    omega
  | f + 1, x, s, hs, h => by
    show (if (a.testBit x && !s.testBit x) = true then runN l a d f (adN l x d) (s ||| 2 ^ x) + 1 else 0) + _ ≤ _
    by_cases g : (a.testBit x && !s.testBit x) = true
    · rw [if_pos g]
      rw [Bool.and_eq_true, Bool.not_eq_true'] at g
      have hx : x < 24 := by
        rcases Nat.lt_or_ge x 24 with q | q
        · exact q
        · rw [Nat.testBit_lt_two_pow (Nat.lt_of_lt_of_le ha (Nat.pow_le_pow_right (by decide) q))] at g
          cases g.1
      have h2 : s ||| 2 ^ x < 2 ^ 24 := Nat.or_lt_two_pow hs (Nat.pow_lt_pow_right (by decide) hx)
      have ih := run_le (l := l) (d := d) ha f (adN l x d) (s ||| 2 ^ x) h2 (fun i hi => by
        rw [Nat.testBit_or, Bool.or_eq_true, Nat.testBit_two_pow] at hi
        rcases hi with hi | hi
        · exact h i hi
        · have := of_decide_eq_true hi
          subst this
          exact g.1)
      rw [or_len hs hx g.2] at ih
      omega
    · rw [if_neg g]
      have := sub_len hs ha h
      omega
/-- A progression that has as many elements as steps has them all different. -/
theorem prg_len {l : List Int} (hg : grpB l = true) {x d : Nat} (hx : x < (prodI l).toNat) : ∀ n, (bitsN (prgN l x d n)).length ≤ n
  | 0 => by
    show (bitsN 0).length ≤ 0
    decide
  | n + 1 => by
    have ih := prg_len hg hx (d := d) n
    have hN := (ords_grp hg).prod
    have hs := grp_pow hg (prg_lt hg hx (d := d) n)
    have h24 : stp (adN l) d x n < 24 := by have := stp_lt hg hx (d := d) n; omega
    cases h : (prgN l x d n).testBit (stp (adN l) d x n) with
    | false =>
      show (bitsN (prgN l x d n ||| 2 ^ stp (adN l) d x n)).length ≤ _
      rw [or_len hs h24 h]
      omega
    | true =>
      have e : prgN l x d (n + 1) = prgN l x d n := bits_same (fun i => by
        show (prgN l x d n ||| 2 ^ stp (adN l) d x n).testBit i = true ↔ _
        rw [Nat.testBit_or, Bool.or_eq_true, Nat.testBit_two_pow]
        constructor
        · rintro (q | q)
          · exact q
          · rw [← of_decide_eq_true q]; exact h
        · exact .inl)
      rw [e]
      omega
theorem prg_new {l : List Int} (hg : grpB l = true) {x d : Nat} (hx : x < (prodI l).toNat) {k : Nat} (h : (prgN l x d k).testBit (stp (adN l) d x k) = true) : ∀ j, (bitsN (prgN l x d (k + 1 + j))).length ≤ k + j
  | 0 => by
    have e : prgN l x d (k + 1) = prgN l x d k := bits_same (fun i => by
      show (prgN l x d k ||| 2 ^ stp (adN l) d x k).testBit i = true ↔ _
      rw [Nat.testBit_or, Bool.or_eq_true, Nat.testBit_two_pow]
      constructor
      · rintro (q | q)
        · exact q
        · rw [← of_decide_eq_true q]; exact h
      · exact .inl)
    rw [show k + 1 + 0 = k + 1 by omega, e]
    exact prg_len hg hx k
  | j + 1 => by
    have ih := prg_new hg hx h j
    have hN := (ords_grp hg).prod
    have hs := grp_pow hg (prg_lt hg hx (d := d) (k + 1 + j))
    have h24 : stp (adN l) d x (k + 1 + j) < 24 := by have := stp_lt hg hx (d := d) (k + 1 + j); omega
    show (bitsN (prgN l x d (k + 1 + j) ||| 2 ^ stp (adN l) d x (k + 1 + j))).length ≤ _
    cases h3 : (prgN l x d (k + 1 + j)).testBit (stp (adN l) d x (k + 1 + j)) with
    | false =>
      rw [or_len hs h24 h3]
      omega
    | true =>
      have e : prgN l x d (k + 1 + j) ||| 2 ^ stp (adN l) d x (k + 1 + j) = prgN l x d (k + 1 + j) := bits_same (fun i => by
        rw [Nat.testBit_or, Bool.or_eq_true, Nat.testBit_two_pow]
        constructor
        · rintro (q | q)
          · exact q
          · rw [← of_decide_eq_true q]; exact h3
        · exact .inl)
      rw [e]
      omega
theorem run_ge {l : List Int} (hg : grpB l = true) {a d x : Nat} (hx : x < (prodI l).toNat) {n : Nat} (hn : n = (bitsN a).length) (he : prgN l x d n = a) : ∀ m k f, k + m = n → m ≤ f → m ≤ runN l a d f (stp (adN l) d x k) (prgN l x d k)
  | 0, _, _, _, _ => Nat.zero_le _
  | m + 1, k, 0, _, hf => absurd hf (by omega)
  | m + 1, k, f + 1, hk, hf => by
    have h1 : a.testBit (stp (adN l) d x k) = true := by
      rw [← he]
      exact (prg_bit l x d n _).2 ⟨k, by omega, rfl⟩
    have h2 : (prgN l x d k).testBit (stp (adN l) d x k) = false := by
      cases h : (prgN l x d k).testBit (stp (adN l) d x k) with
      | false => rfl
      | true =>
        have := prg_new hg hx h m
        rw [show k + 1 + m = n by omega, he] at this
        omega
    show m + 1 ≤ if (a.testBit (stp (adN l) d x k) && !(prgN l x d k).testBit (stp (adN l) d x k)) = true then runN l a d f (adN l (stp (adN l) d x k) d) (prgN l x d k ||| 2 ^ stp (adN l) d x k) + 1 else 0
    rw [h1, h2, if_pos (show (true && !false) = true from rfl)]
    have := run_ge hg hx hn he m (k + 1) f (by omega) (by omega)
    show m + 1 ≤ runN l a d f (stp (adN l) d x (k + 1)) (prgN l x d (k + 1)) + 1
    omega
/-- The greatest of the first values of f, and 0. -/
def mxN (f : Nat → Nat) : Nat → Nat
  | 0 => 0
  | n + 1 => max (mxN f n) (f n)
theorem mx_le {f : Nat → Nat} {c : Nat} : ∀ n, (∀ i, i < n → f i ≤ c) → mxN f n ≤ c
  | 0, _ => Nat.zero_le _
  | n + 1, h => Nat.max_le.2 ⟨mx_le n (fun i hi => h i (by omega)), h n (by omega)⟩
theorem mx_ge {f : Nat → Nat} : ∀ {n i : Nat}, i < n → f i ≤ mxN f n
  | n + 1, i, h => by
    show f i ≤ max (mxN f n) (f n)
    by_cases e : i = n
    · subst e; exact Nat.le_max_right _ _
    · exact Nat.le_trans (mx_ge (by omega)) (Nat.le_max_left _ _)
def lngN (l : List Int) (a : Nat) : Nat := mxN (fun i => mxN (fun d => runN l a d 24 ((bitsN a).getD i 0) 0) (prodI l).toNat) (bitsN a).length
def lngE (l : List Int) (a : Int) : Int := if isS l a = true then ((lngN l a.toNat : Nat) : Int) else -1
def prgE (l : List Int) (x d n : Int) : Int := if (isE l x && isE l d && (decide (0 ≤ n) && decide (n ≤ 24))) = true then ((prgN l x.toNat d.toNat n.toNat : Nat) : Int) else -1
theorem lng_le {l : List Int} {a : Nat} (ha : a < 2 ^ 24) : lngN l a ≤ (bitsN a).length :=
  mx_le _ (fun i _ => mx_le _ (fun d _ => by
    have := run_le (l := l) (d := d) ha 24 ((bitsN a).getD i 0) 0 (by decide) (fun i hi => by simp at hi)
    exact Nat.le_trans (Nat.le_add_right _ _) this))
theorem lng_fine {l : List Int} (hg : grpB l = true) {a d : Nat} (ha : a < 2 ^ (prodI l).toNat) (hd : d < (prodI l).toNat) (h : fineB l a d = true) : lngN l a = (bitsN a).length := by
  have ha24 := grp_pow hg ha
  refine Nat.le_antisymm (lng_le ha24) ?_
  obtain ⟨x, hx, e⟩ := (fine_iff ha24).1 h
  have hxN : x < (prodI l).toNat := by have := el_of hg ha hx; have := (ords_grp hg).prod; omega
  obtain ⟨i, hi, ei⟩ := List.getElem_of_mem ((mem_bits ha24 x).2 hx)
  have h1 := run_ge hg hxN (d := d) rfl e (bitsN a).length 0 24 (by omega) (upK_len a 24)
  refine Nat.le_trans ?_ (mx_ge (f := fun i => mxN (fun d => runN l a d 24 ((bitsN a).getD i 0) 0) (prodI l).toNat) hi)
  refine Nat.le_trans ?_ (mx_ge (f := fun d => runN l a d 24 ((bitsN a).getD i 0) 0) hd)
  show _ ≤ runN l a d 24 ((bitsN a).getD i 0) 0
  rw [show (bitsN a).getD i 0 = x by simp [List.getD, List.getElem?_eq_getElem hi, ei]]
  exact h1
theorem dfs_mem {l : List Int} {a x : Int} (h : x ∈ dfsE l a) : grpB l = true ∧ ∃ m d : Nat, a = (m : Int) ∧ x = (d : Int) ∧ m ≠ 0 ∧ m < 2 ^ (prodI l).toNat ∧ d < (prodI l).toNat ∧ fineB l m d = true := by
  unfold dfsE at h
  by_cases g : (isS l a && !(a == 0)) = true
  · rw [if_pos g] at h
    rw [Bool.and_eq_true] at g
    obtain ⟨hg, m, rfl, hm, _⟩ := isS_true g.1
    obtain ⟨d, hd, rfl⟩ := List.mem_map.1 h
    rw [Int.toNat_natCast] at hd
    obtain ⟨h1, h2⟩ := difL_mem.1 hd
    have g2 := g.2
    simp only [Bool.not_eq_true', beq_eq_false_iff_ne, ne_eq] at g2
    exact ⟨hg, m, d, rfl, rfl, by omega, hm, h1, h2⟩
  · rw [if_neg g] at h
    cases h
theorem dfs_in {l : List Int} (hg : grpB l = true) {m d : Nat} (h0 : m ≠ 0) (hm : m < 2 ^ (prodI l).toNat) (hd : d < (prodI l).toNat) (h : fineB l m d = true) : (d : Int) ∈ dfsE l (m : Int) := by
  unfold dfsE
  rw [isS_of hg hm, show ((m : Int) == 0) = false by simp; omega, if_pos (show (true && !false) = true from rfl)]
  exact List.mem_map.2 ⟨d, difL_mem.2 ⟨hd, h⟩, rfl⟩
/-- With a step its negative is one. -/
theorem dfs_neg {l : List Int} {a x : Int} (h : x ∈ dfsE l a) : negE l x ∈ dfsE l a := by
  obtain ⟨hg, m, d, rfl, rfl, h0, hm, hd, hf⟩ := dfs_mem h
  have ho := ords_grp hg
  have hp := ho.prod
  have hi := negN_in ho (d : Int)
  have he : isE l (d : Int) = true := by unfold isE; rw [ordN_grp hg]; simp; omega
  have e : negE l (d : Int) = ((nnN l d : Nat) : Int) := by unfold negE nnN; rw [if_pos he]; omega
  rw [e]
  exact dfs_in hg h0 hm ((abel_grp hg).nlt d) (fine_neg hg hm hf)
/-- A progression's longest run is itself. -/
theorem dfs_lng {l : List Int} {a : Int} (h : dfsE l a ≠ []) : lngE l a = cntE l a := by
  obtain ⟨x, hx⟩ := List.exists_mem_of_ne_nil _ h
  obtain ⟨hg, m, d, rfl, rfl, h0, hm, hd, hf⟩ := dfs_mem hx
  have hs := isS_of hg hm
  unfold lngE cntE
  rw [if_pos hs, hs, Int.toNat_natCast, lng_fine hg hm hd hf]
  rfl
/-- Whether the order is a prime number. -/
def prmB (l : List Int) : Bool := grpB l && (decide (2 ≤ (prodI l).toNat) && (List.range (prodI l).toNat).all fun d => decide (d < 2) || !((prodI l).toNat % d == 0))
theorem prm_yes {l : List Int} (h : prmB l = true) : grpB l = true ∧ 2 ≤ (prodI l).toNat ∧ ∀ k, k ∣ (prodI l).toNat → k = 1 ∨ k = (prodI l).toNat := by
  unfold prmB at h
  rw [Bool.and_eq_true, Bool.and_eq_true, List.all_eq_true] at h
  obtain ⟨h1, h2, h3⟩ := h
  have h2 := of_decide_eq_true h2
  refine ⟨h1, h2, fun k hk => ?_⟩
  have hle := Nat.le_of_dvd (by omega) hk
  by_cases e : k = (prodI l).toNat
  · exact .inr e
  · left
    have h4 := h3 k (List.mem_range.2 (by omega))
    rw [Bool.or_eq_true, Bool.not_eq_true', beq_eq_false_iff_ne] at h4
    rcases h4 with h5 | h5
    · have h6 := of_decide_eq_true h5
      rcases Nat.eq_zero_or_pos k with h0 | h0
      · subst h0
        have := Nat.eq_zero_of_zero_dvd hk
        omega
      · omega
    · exact absurd (Nat.mod_eq_zero_of_dvd hk) h5
/-- The least step that both sets have. -/
def comO (l : List Int) (a b : Int) : Option Int := (dfsE l a).find? fun x => (dfsE l b).contains x
def comE (l : List Int) (a b : Int) : Int := (comO l a b).getD 0
def comB (l : List Int) (a b : Int) : Bool := (comO l a b).isSome
theorem com_yes {l : List Int} {a b : Int} {x : Int} (ha : x ∈ dfsE l a) (hb : x ∈ dfsE l b) : comB l a b = true := by
  unfold comB comO
  rw [List.find?_isSome]
  exact ⟨x, ha, by simpa using hb⟩
/-- A set that is not empty and has one run by a step is a progression by it. -/
theorem run_fine {l : List Int} (hg : grpB l = true) (W : Whole (prodI l).toNat (adN l)) {a d : Nat} (ha : a < 2 ^ (prodI l).toNat) (hd : d < (prodI l).toNat) (h0 : d ≠ 0)
    (hE : ends (prodI l).toNat (adN l) (fun i => a.testBit i) d ≤ 1) (hC : 0 < (bitsN a).length) (hN : (bitsN a).length < (prodI l).toNat) : fineB l a d = true := by
  have ha24 := grp_pow hg ha
  have hp := (ords_grp hg).prod
  have ec := cd_bits ha (by omega)
  obtain ⟨x, hx, hax, hz⟩ := run_list (abel_grp hg) W hd h0 hE (by rw [ec]; exact hC) (by rw [ec]; exact hN)
  rw [ec] at hz
  refine (fine_iff ha24).2 ⟨x, hax, bits_same (fun z => ?_)⟩
  rw [prg_bit]
  constructor
  · rintro ⟨i, hi, e⟩
    exact (hz z (by rw [← e]; exact stp_lt hg hx i)).2 ⟨i, hi, e⟩
  · intro hb
    have hzN := el_of hg ha hb
    exact (hz z (by omega)).1 hb
/-- Which of the cases of Vosper holds: 0 none is asked, 1 whole, 2 large, 3 one, 4 steps, 5 gap, 6 none. -/
def vosK (l : List Int) (a b : Int) : Nat :=
  if (prmB l && neB l a b) = true then
    if ((((bitsN (sumN l a.toNat b.toNat)).length : Int) == prodI l) && decide (prodI l ≤ ((bitsN a.toNat).length : Int) + ((bitsN b.toNat).length : Int) - 1)) = true then 1
    else if (((bitsN (sumN l a.toNat b.toNat)).length : Int) == ((bitsN a.toNat).length : Int) + ((bitsN b.toNat).length : Int) - 1) = false then 2
    else if ((((bitsN a.toNat).length : Int) == 1) || (((bitsN b.toNat).length : Int) == 1)) = true then 3
    else if comB l a b = true then 4
    else if ((((bitsN a.toNat).length : Int) + ((bitsN b.toNat).length : Int) - 1) == prodI l - 1) = true then 5 else 6
  else 0
/-- Each smallest sum has its reason. -/
theorem vos_ok (l : List Int) (a b : Int) : vosK l a b ≠ 6 := by
  unfold vosK
  by_cases h : (prmB l && neB l a b) = true
  · rw [if_pos h]
    rw [Bool.and_eq_true] at h
    obtain ⟨hpr, hne⟩ := h
    obtain ⟨hg, hP2, hP⟩ := prm_yes hpr
    obtain ⟨_, m, n, rfl, rfl, hm0, hn0, hm, hn⟩ := neB_yes hne
    simp only [Int.toNat_natCast]
    have hp := (ords_grp hg).prod
    have hm24 := grp_pow hg hm
    have hn24 := grp_pow hg hn
    have hs := sumN_lt hg m n
    have em := cd_bits hm (by omega)
    have en := cd_bits hn (by omega)
    have es := cd_bits hs (by omega)
    have hmp : 0 < (bitsN m).length := by obtain ⟨i, hi⟩ := bit_ex hm0; exact List.length_pos_of_mem ((mem_bits hm24 i).2 hi)
    have hnp : 0 < (bitsN n).length := by obtain ⟨i, hi⟩ := bit_ex hn0; exact List.length_pos_of_mem ((mem_bits hn24 i).2 hi)
    have G := abel_grp hg
    have W := whole_prime G hP
    have hle : (bitsN (sumN l m n)).length ≤ (prodI l).toNat := by
      rw [← es]
      have := cd_le (N := (prodI l).toNat) (P := fun i => (sumN l m n).testBit i) (Q := fun _ => true) (fun _ _ _ => rfl)
      rw [cd_full] at this
      exact this
    have isum := isSum_N hg hm hn
    by_cases c1 : ((((bitsN (sumN l m n)).length : Int) == prodI l) && decide (prodI l ≤ ((bitsN m).length : Int) + ((bitsN n).length : Int) - 1)) = true
    · rw [if_pos c1]; decide
    · rw [if_neg c1]
      by_cases c2 : (((bitsN (sumN l m n)).length : Int) == ((bitsN m).length : Int) + ((bitsN n).length : Int) - 1) = false
      · rw [if_pos c2]; decide
      · rw [if_neg c2]
        by_cases c3 : ((((bitsN m).length : Int) == 1) || (((bitsN n).length : Int) == 1)) = true
        · rw [if_pos c3]; decide
        · rw [if_neg c3]
          by_cases c4 : comB l (m : Int) (n : Int) = true
          · rw [if_pos c4]; decide
          · rw [if_neg c4]
            by_cases c5 : ((((bitsN m).length : Int) + ((bitsN n).length : Int) - 1) == prodI l - 1) = true
            · rw [if_pos c5]; decide
            · exfalso
              simp only [Bool.and_eq_true, beq_iff_eq, decide_eq_true_eq, Bool.or_eq_true, not_or, Bool.not_eq_false, not_and] at c1 c2 c3 c5
              obtain ⟨c3a, c3b⟩ := c3
              have k1 : 2 ≤ (bitsN m).length := by omega
              have k2 : 2 ≤ (bitsN n).length := by omega
              have k3 : (bitsN (sumN l m n)).length + 1 = (bitsN m).length + (bitsN n).length := by omega
              have k4 : (bitsN (sumN l m n)).length + 2 ≤ (prodI l).toNat := by
                by_cases q : (bitsN (sumN l m n)).length = (prodI l).toNat
                · have := c1 (by omega); omega
                · omega
              obtain ⟨d, hd, hd0, e1, e2⟩ := vosper G W (bitsN n).length _ _ _ (by rw [en]; exact Nat.le_refl _) (by rw [em]; exact k1) (by rw [en]; exact k2) isum (by rw [es, em, en]; exact k3) (by rw [es]; exact k4)
              have f1 := run_fine hg W hm hd hd0 e1 hmp (by omega)
              have f2 := run_fine hg W hn hd hd0 e2 hnp (by omega)
              have g1 : (d : Int) ∈ dfsE l (m : Int) := by
                unfold dfsE
                rw [isS_of hg hm, show ((m : Int) == 0) = false by simp; omega, if_pos (show (true && !false) = true from rfl)]
                exact List.mem_map.2 ⟨d, difL_mem.2 ⟨hd, f1⟩, rfl⟩
              have g2 : (d : Int) ∈ dfsE l (n : Int) := by
                unfold dfsE
                rw [isS_of hg hn, show ((n : Int) == 0) = false by simp; omega, if_pos (show (true && !false) = true from rfl)]
                exact List.mem_map.2 ⟨d, difL_mem.2 ⟨hd, f2⟩, rfl⟩
              exact c4 (com_yes g1 g2)
  · rw [if_neg h]; decide
end Go.Proofs.YtfkleihnafeoeaaGreatDoor
