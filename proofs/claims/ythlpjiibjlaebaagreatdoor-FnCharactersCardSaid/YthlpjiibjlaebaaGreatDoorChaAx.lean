/- Ahead of stage 7: annihilators: a subgroup's size times that of its annihilator is the order, and the annihilator's own annihilator is the subgroup. -/
import Derived.Test.YthlpjiibjlaebaaGreatDoorMGAJ
import Derived.Test.YthlpjiibjlaebaaGreatDoorMGAW
namespace Go.Proofs.YthlpjiibjlaebaaGreatDoor
open Go.RowKit
/-- Those of the first elements whose characters are 0 on all of h. -/
def annN (l : List Int) (h : Nat) : Nat := orF (fun x : Nat => (x : Int)) ((List.range (prodI l).toNat).filter fun k => (bitsN h).all fun x => chN l (k : Int) (x : Int) == 0)
theorem ann_bit {l : List Int} {h : Nat} (hh : h < 2 ^ 24) (k : Nat) : (annN l h).testBit k = true ↔ k < (prodI l).toNat ∧ ∀ x : Nat, h.testBit x = true → chN l (k : Int) (x : Int) = 0 := by
  unfold annN
  rw [orF_bit]
  constructor
  · rintro ⟨x, hx, rfl⟩
    rw [List.mem_filter, List.mem_range, List.all_eq_true] at hx
    rw [Int.toNat_natCast]
    exact ⟨hx.1, fun y hy => by simpa using hx.2 y ((mem_bits hh y).2 hy)⟩
  · rintro ⟨h1, h2⟩
    refine ⟨k, ?_, Int.toNat_natCast k⟩
    rw [List.mem_filter, List.mem_range, List.all_eq_true]
    exact ⟨h1, fun y hy => by simpa using h2 y ((mem_bits hh y).1 hy)⟩
theorem ann_lt (l : List Int) (h : Nat) : annN l h < 2 ^ (prodI l).toNat := by
  unfold annN
  refine orF_lt _ _ _ fun x hx => ?_
  rw [List.mem_filter, List.mem_range] at hx
  rw [Int.toNat_natCast]
  exact hx.1
theorem ann_sg {l : List Int} (hg : grpB l = true) {h : Nat} (hh : h < 2 ^ 24) : IsSg l (annN l h) := by
  have hO := ords_grp hg
  have hP := hO.prod
  have hE := expN_pos hO
  refine ⟨ann_lt l h, (ann_bit hh 0).2 ⟨by omega, fun x _ => by rw [chN_comm]; exact chN_zero l _⟩, fun x y hx hy => ?_⟩
  obtain ⟨h1, h2⟩ := (ann_bit hh x).1 hx
  obtain ⟨h3, h4⟩ := (ann_bit hh y).1 hy
  have hb := addN_in hO (y : Int) (x : Int)
  refine (ann_bit hh _).2 ⟨by omega, fun z hz => ?_⟩
  rw [Int.toNat_of_nonneg hb.1, chN_comm, ← chN_add hO, chN_comm l _ (y : Int), chN_comm l _ (x : Int), h2 z hz, h4 z hz]
  simp
theorem ann_ann {l : List Int} (hg : grpB l = true) {h : Nat} (hh : h < 2 ^ (prodI l).toNat) : Part h (annN l (annN l h)) := fun x hx => by
  have hx1 := el_of hg hh hx
  refine (ann_bit (grp_pow hg (ann_lt l h)) x).2 ⟨by omega, fun k hk => ?_⟩
  rw [chN_comm]
  exact ((ann_bit (grp_pow hg hh) k).1 hk).2 x hx
/-- Whatever falls into m parts of at most c has at most m times c elements. -/
theorem len_parts {f : Nat → Nat} {c : Nat} : ∀ (m : Nat) (L : List Nat), (∀ x ∈ L, f x < m) → (∀ t, t < m → (L.filter fun x => f x == t).length ≤ c) → L.length ≤ m * c
  | 0, L, h, _ => by
    have : L = [] := List.eq_nil_iff_forall_not_mem.2 fun x hx => absurd (h x hx) (by omega)
    subst this
    simp
  | m + 1, L, h, hc => by
    have h1 : L.length = (L.filter fun x => f x == m).length + (L.filter fun x => !(f x == m)).length := by
      induction L with
      | nil => rfl
      | cons a r ih =>
        have ih := ih (fun x hx => h x (by simp [hx])) (fun t ht => Nat.le_trans (by
          rw [List.filter_cons]
          split
          · simp
          · exact Nat.le_refl _) (hc t ht))
        rw [List.filter_cons, List.filter_cons]
        cases e : f a == m <;> simp <;> omega
    have h2 := len_parts (f := f) (c := c) m (L.filter fun x => !(f x == m)) (fun x hx => by
      rw [List.mem_filter] at hx
      have h3 := h x hx.1
      have h4 : f x ≠ m := by simpa using hx.2
      omega) (fun t ht => Nat.le_trans (by
        have : ((L.filter fun x => !(f x == m)).filter fun x => f x == t).length ≤ (L.filter fun x => f x == t).length := by
          have e : (L.filter fun x => !(f x == m)).filter (fun x => f x == t) = (L.filter fun x => f x == t).filter (fun x => !(f x == m)) := by
            rw [List.filter_filter, List.filter_filter]
            congr 1
            funext x
            exact Bool.and_comm _ _
          rw [e]
          exact List.length_filter_le _ _
        exact this) (hc t (by omega)))
    have h3 := hc m (by omega)
    rw [h1, Nat.succ_mul]
    omega
/-- The multiples of x lead through m cosets, each of the subgroup's size. -/
theorem cos_apart {l : List Int} (hg : grpB l = true) {s x m : Nat} (hs : IsSg l s) (h3 : ∀ e, 0 < e → e < m → cosK l s x e ≠ s) {i k : Nat} (hi : i < k) (hk : k < m) (z : Nat) : ¬ ((cosK l s x i).testBit z = true ∧ (cosK l s x k).testBit z = true) := by
  rintro ⟨h1, h2⟩
  have hO := ords_grp hg
  have h24 := grp_pow hg hs.1
  have m1 : ∀ j : Nat, ((multN l x j : Nat) : Int) < prodI l := fun j => by rw [multN_nat hg]; exact (mulN_bnd hO _ _).2
  have e1 := coset_same hg hs (m1 i) h1
  have e2 := coset_same hg hs (m1 k) h2
  have e3 : cosK l s x i = cosK l s x k := by unfold cosK; rw [e1, e2]
  have e4 : movN l (cosK l s x (k - i)) (multN l x i) = movN l s (multN l x i) := by
    rw [cosK_add hg h24, show k - i + i = k by omega, ← e3]
    rfl
  exact h3 (k - i) (by omega) (by omega) (shift_inj hg (cosK_lt hg _ _ _) hs.1 e4)
theorem ext_size {l : List Int} (hg : grpB l = true) {s x m : Nat} (hs : IsSg l s) (h3 : ∀ e, 0 < e → e < m → cosK l s x e ≠ s) : ∀ k, k ≤ m → (bitsN (extK l s x k)).length = k * (bitsN s).length
  | 0, _ => by
    have : extK l s x 0 = 0 := rfl
    rw [this, Nat.zero_mul]
    decide
  | k + 1, hk => by
    have ih := ext_size hg hs h3 k (by omega)
    rw [extK_succ, bits_add (fun z ⟨h1, h2⟩ => by
      unfold extK at h1
      obtain ⟨i, hi, hb⟩ := (orG_bit _ _ _).1 h1
      rw [List.mem_range] at hi
      exact cos_apart hg hs h3 hi (by omega) z ⟨hb, h2⟩), ih, Nat.succ_mul]
    congr 1
    exact mov_cnt hg hs.1 _
/-- A character at a multiple. -/
theorem chN_mult {l : List Int} (hg : grpB l = true) (k : Int) (x : Nat) : ∀ j : Nat, chN l k ((multN l x j : Nat) : Int) = (j : Int) * chN l k (x : Int) % expN l
  | 0 => by
    rw [multN_zero]
    have : chN l k ((0 : Nat) : Int) = 0 := chN_zero l k
    rw [this]
    simp
  | j + 1 => by
    have hO := ords_grp hg
    have h1 := multN_succ hg x j
    have h2 : ((multN l x (j + 1) : Nat) : Int) = addN l ((multN l x j : Nat) : Int) (x : Int) := by
      rw [← h1, Int.toNat_of_nonneg (addN_in hO _ _).1]
    rw [h2, ← chN_add hO, chN_mult hg k x j]
    rw [Int.emod_add_emod]
    congr 1
    have : ((j + 1 : Nat) : Int) = (j : Int) + 1 := by omega
    rw [this, Int.add_mul, Int.one_mul]
/-- What annihilates a subgroup: at most m times as much as what annihilates it with x. -/
theorem ann_step {l : List Int} (hg : grpB l = true) {s x m : Nat} (hs : IsSg l s) (hm : 0 < m) (hk : cosK l s x m = s) : (bitsN (annN l s)).length ≤ m * (bitsN (annN l (extK l s x m))).length := by
  have hO := ords_grp hg
  have hP := hO.prod
  have hE := expN_pos hO
  have h24 := grp_pow hg hs.1
  have hx24 := grp_pow hg (extK_lt hg s x m)
  have hA := ann_sg hg h24
  have hA24 := grp_pow hg hA.1
  have hB24 := grp_pow hg (ann_lt l (extK l s x m))
  have hmul : s.testBit (multN l x m) = true := by
    have h1 : (movN l s (multN l x m)).testBit (multN l x m) = true := coset_holds hg hs (by rw [multN_nat hg]; exact (mulN_bnd hO _ _).2)
    have h2 : movN l s (multN l x m) = s := hk
    rwa [h2] at h1
  have hv : ∀ k : Nat, (annN l s).testBit k = true → (m : Int) * chN l (k : Int) (x : Int) % expN l = 0 := fun k hk2 => by
    rw [← chN_mult hg]
    exact ((ann_bit h24 k).1 hk2).2 _ hmul
  refine len_parts (f := fun k => ((m : Int) * chN l (k : Int) (x : Int) / expN l).toNat) m (bitsN (annN l s)) (fun k hk2 => ?_) (fun t ht => ?_)
  · have hb := chN_bnd hO (k : Int) (x : Int)
    have h1 : (m : Int) * chN l (k : Int) (x : Int) < (m : Int) * expN l := Int.mul_lt_mul_of_pos_left hb.2 (by omega)
    have h2 : (m : Int) * chN l (k : Int) (x : Int) / expN l < (m : Int) := Int.ediv_lt_of_lt_mul (by omega) h1
    have h3 : 0 ≤ (m : Int) * chN l (k : Int) (x : Int) / expN l := Int.ediv_nonneg (Int.mul_nonneg (by omega) hb.1) (by omega)
    show ((m : Int) * chN l (k : Int) (x : Int) / expN l).toNat < m
    omega
  · obtain ⟨F, hF⟩ : ∃ F, (bitsN (annN l s)).filter (fun k : Nat => ((m : Int) * chN l (k : Int) (x : Int) / expN l).toNat == t) = F := ⟨_, rfl⟩
    rw [hF]
    have hFm : ∀ k ∈ F, (annN l s).testBit k = true ∧ (m : Int) * chN l (k : Int) (x : Int) / expN l = (t : Int) := fun k hk2 => by
      rw [← hF, List.mem_filter] at hk2
      have hb := chN_bnd hO (k : Int) (x : Int)
      have h3 : 0 ≤ (m : Int) * chN l (k : Int) (x : Int) / expN l := Int.ediv_nonneg (Int.mul_nonneg (by omega) hb.1) (by omega)
      refine ⟨(mem_bits hA24 k).1 hk2.1, ?_⟩
      have h4 : ((m : Int) * chN l (k : Int) (x : Int) / expN l).toNat = t := by simpa using hk2.2
      omega
    have hFd : F.Nodup := by rw [← hF]; exact (bits_nodup _).filter _
    have hval : ∀ k ∈ F, ∀ k2 ∈ F, chN l (k : Int) (x : Int) = chN l (k2 : Int) (x : Int) := fun k h1 k2 h2 => by
      obtain ⟨a1, a2⟩ := hFm k h1
      obtain ⟨b1, b2⟩ := hFm k2 h2
      have c1 := hv k a1
      have c2 := hv k2 b1
      have d1 := Int.emod_def ((m : Int) * chN l (k : Int) (x : Int)) (expN l)
      have d2 := Int.emod_def ((m : Int) * chN l (k2 : Int) (x : Int)) (expN l)
      rw [c1, a2] at d1
      rw [c2, b2] at d2
      have e : (m : Int) * chN l (k : Int) (x : Int) = (m : Int) * chN l (k2 : Int) (x : Int) := by omega
      exact Int.eq_of_mul_eq_mul_left (by omega) e
    rcases List.eq_nil_or_concat F with h0 | ⟨_, k0, hc⟩
    · rw [h0]; simp
    · have hk0 : k0 ∈ F := by rw [hc]; simp
      obtain ⟨a0, _⟩ := hFm k0 hk0
      obtain ⟨p0, q0⟩ := (ann_bit h24 k0).1 a0
      have hn := negN_in hO (k0 : Int)
      have hle := len_le_of_sub F ((bitsN (annN l (extK l s x m))).map fun a : Nat => (addN l (a : Int) (k0 : Int)).toNat) hFd (fun k hk2 => by
        obtain ⟨a1, _⟩ := hFm k hk2
        obtain ⟨p1, q1⟩ := (ann_bit h24 k).1 a1
        have hd := addN_in hO (k : Int) (negN l (k0 : Int))
        obtain ⟨d, hdn⟩ : ∃ d : Nat, addN l (k : Int) (negN l (k0 : Int)) = (d : Int) := ⟨_, (Int.toNat_of_nonneg hd.1).symm⟩
        have hback : addN l (d : Int) (k0 : Int) = (k : Int) := by
          rw [← hdn, addN_assoc hO, addN_comm l (negN l (k0 : Int)), addN_neg hO, addN_zero hO (by omega) (by omega)]
        -- the difference is 0 wherever both are the same
        have hdiff : ∀ z : Int, chN l (k : Int) z = chN l (k0 : Int) z → chN l (d : Int) z = 0 := fun z hz => by
          have h1 := chN_add hO z (d : Int) (k0 : Int)
          rw [hback, chN_comm l z (k : Int), chN_comm l z (d : Int), chN_comm l z (k0 : Int), hz] at h1
          have b1 := chN_bnd hO (d : Int) z
          have b2 := chN_bnd hO (k0 : Int) z
          obtain ⟨u, hu⟩ : ∃ u, chN l (d : Int) z = u := ⟨_, rfl⟩
          obtain ⟨v, hv2⟩ : ∃ v, chN l (k0 : Int) z = v := ⟨_, rfl⟩
          obtain ⟨e, he⟩ : ∃ e, expN l = e := ⟨_, rfl⟩
          rw [hu, hv2, he] at h1
          rw [hu, he] at b1
          rw [hv2, he] at b2
          rw [hu]
          by_cases h2 : u + v < e
          · rw [Int.emod_eq_of_lt (by omega) h2] at h1
            omega
          · have h3 : (u + v) % e = u + v - e := by
              rw [show u + v = (u + v - e) + e by omega, Int.add_emod_right, Int.emod_eq_of_lt (by omega) (by omega)]
              omega
            rw [h3] at h1
            omega
        refine List.mem_map.2 ⟨d, ?_, by rw [hback]; exact Int.toNat_natCast k⟩
        refine (mem_bits hB24 d).2 ((ann_bit hx24 d).2 ⟨by omega, fun z hz => ?_⟩)
        obtain ⟨i, y, _, hy, hzz⟩ := (extK_bit h24 x m z).1 hz
        have hyz : ((z : Nat) : Int) = addN l (y : Int) ((multN l x i : Nat) : Int) := by
          rw [← hzz, Int.toNat_of_nonneg (addN_in hO _ _).1]
        have hy0 : chN l (d : Int) (y : Int) = 0 := hdiff _ (by rw [q1 y hy, q0 y hy])
        have hx0 : chN l (d : Int) (x : Int) = 0 := hdiff _ (hval k hk2 k0 hk0)
        rw [hyz, ← chN_add hO, hy0, chN_mult hg, hx0]
        simp)
      rw [List.length_map] at hle
      exact hle
/-- The size of a set times that of its annihilator. -/
def fAnn (l : List Int) (s : Nat) : Nat := (bitsN s).length * (bitsN (annN l s)).length
theorem fAnn_step {l : List Int} (hg : grpB l = true) {a s x : Nat} (ha : a < 2 ^ (prodI l).toNat) (hc : IsClo l a s) : ∃ c, IsClo l (a ||| 2 ^ x) c ∧ fAnn l s ≤ fAnn l c := by
  obtain ⟨m, m1, m2, m3⟩ := cosK_first hg hc.lt x
  have hs : IsSg l s := hc.sg hg
  refine ⟨extK l s x m, ext_clo hg ha hc m1 m2, ?_⟩
  unfold fAnn
  rw [ext_size hg hs m3 m (Nat.le_refl _)]
  have h1 := ann_step hg hs m1 m2
  calc (bitsN s).length * (bitsN (annN l s)).length ≤ (bitsN s).length * (m * (bitsN (annN l (extK l s x m))).length) := Nat.mul_le_mul_left _ h1
    _ = m * (bitsN s).length * (bitsN (annN l (extK l s x m))).length := by rw [← Nat.mul_assoc, Nat.mul_comm (bitsN s).length m]
theorem fAnn_chain {l : List Int} (hg : grpB l = true) : ∀ (L : List Nat) (a s : Nat), (∀ x ∈ L, (x : Int) < prodI l) → a < 2 ^ (prodI l).toNat → IsClo l a s → ∃ c, IsClo l (a ||| prefN L) c ∧ fAnn l s ≤ fAnn l c
  | [], a, s, _, _, hc => ⟨s, by
    have : prefN [] = 0 := rfl
    rw [this, Nat.or_zero]; exact hc, Nat.le_refl _⟩
  | x :: r, a, s, hL, ha, hc => by
    have hx := hL x (by simp)
    have hP := (ords_grp hg).prod
    obtain ⟨c, h1, h2⟩ := fAnn_step (x := x) hg ha hc
    have ha2 : a ||| 2 ^ x < 2 ^ (prodI l).toNat := Nat.or_lt_two_pow ha (Nat.pow_lt_pow_right (by decide) (by omega))
    obtain ⟨d, h3, h4⟩ := fAnn_chain hg r (a ||| 2 ^ x) c (fun y hy => hL y (by simp [hy])) ha2 h1
    refine ⟨d, ?_, Nat.le_trans h2 h4⟩
    have e : a ||| 2 ^ x ||| prefN r = a ||| prefN (x :: r) := bits_same fun i => by
      unfold prefN
      rw [Nat.testBit_or, Nat.testBit_or, Nat.testBit_or, Bool.or_eq_true, Bool.or_eq_true, Bool.or_eq_true, orF_bit, orF_bit, Nat.testBit_two_pow, decide_eq_true_eq]
      constructor
      · rintro ((h | h) | ⟨y, hy, h⟩)
        · exact .inl h
        · exact .inr ⟨x, by simp, by rw [Int.toNat_natCast]; exact h⟩
        · exact .inr ⟨y, by simp [hy], h⟩
      · rintro (h | ⟨y, hy, h⟩)
        · exact .inl (.inl h)
        · rcases List.mem_cons.1 hy with rfl | hy
          · rw [Int.toNat_natCast] at h
            exact .inl (.inr h)
          · exact .inr ⟨y, hy, h⟩
    rw [← e]
    exact h3
theorem bits_pow (n : Nat) (h : n ≤ 24) : (bitsN (2 ^ n - 1)).length = n := by
  have h1 : ∀ n : Fin 25, (bitsN (2 ^ n.val - 1)).length = n.val := by decide
  exact h1 ⟨n, by omega⟩
theorem fAnn_one {l : List Int} (hg : grpB l = true) : fAnn l 1 = (prodI l).toNat := by
  have hP := (ords_grp hg).prod
  have h1 : annN l 1 = 2 ^ (prodI l).toNat - 1 := bits_same fun i => by
    rw [ann_bit (by decide), Nat.testBit_two_pow_sub_one, decide_eq_true_eq]
    constructor
    · exact fun h => h.1
    · refine fun h => ⟨h, fun x hx => ?_⟩
      have : x = 0 := by
        rcases Nat.eq_zero_or_pos x with h0 | h0
        · exact h0
        · rw [Nat.testBit_one_eq_true_iff_self_eq_zero] at hx; exact hx
      subst this
      exact chN_zero l _
  unfold fAnn
  rw [h1, bits_pow (prodI l).toNat (by omega)]
  have h2 : (bitsN 1).length = 1 := by decide
  rw [h2, Nat.one_mul]
theorem fAnn_full {l : List Int} (hg : grpB l = true) : fAnn l (2 ^ (prodI l).toNat - 1) = (prodI l).toNat := by
  have hP := (ords_grp hg).prod
  have hlt : 2 ^ (prodI l).toNat - 1 < 2 ^ (prodI l).toNat := by have := Nat.two_pow_pos (prodI l).toNat; omega
  have h1 : annN l (2 ^ (prodI l).toNat - 1) = 1 := bits_same fun i => by
    rw [ann_bit (grp_pow hg hlt), Nat.testBit_one_eq_true_iff_self_eq_zero]
    constructor
    · rintro ⟨h, hall⟩
      have := chN_all hg (x := (i : Int)) (by omega) (by omega) (fun k k0 k1 => by
        obtain ⟨n, rfl⟩ : ∃ n : Nat, k = (n : Int) := ⟨k.toNat, by omega⟩
        rw [chN_comm]
        exact hall n (by rw [Nat.testBit_two_pow_sub_one, decide_eq_true_eq]; omega))
      omega
    · intro h
      subst h
      exact ⟨by omega, fun x _ => by rw [chN_comm]; exact chN_zero l _⟩
  unfold fAnn
  rw [h1, bits_pow (prodI l).toNat (by omega)]
  have h2 : (bitsN 1).length = 1 := by decide
  rw [h2, Nat.mul_one]
/-- A subgroup's size times that of its annihilator is the order. -/
theorem ann_size {l : List Int} (hg : grpB l = true) {h : Nat} (hs : IsSg l h) : (bitsN h).length * (bitsN (annN l h)).length = (prodI l).toNat := by
  have hP := (ords_grp hg).prod
  have h24 := grp_pow hg hs.1
  apply Nat.le_antisymm
  · obtain ⟨c, h1, h2⟩ := fAnn_chain hg (List.range (prodI l).toNat) h h (fun x hx => by rw [List.mem_range] at hx; omega) hs.1 (clo_self hg hs)
    have e : c = 2 ^ (prodI l).toNat - 1 := bits_same fun i => by
      rw [Nat.testBit_two_pow_sub_one, decide_eq_true_eq]
      constructor
      · intro hi
        have := el_of hg h1.lt hi
        omega
      · intro hi
        have hfull : h ||| prefN (List.range (prodI l).toNat) < 2 ^ (prodI l).toNat := Nat.or_lt_two_pow hs.1 (prefN_lt fun x hx => List.mem_range.1 hx)
        refine h1.holds hg hfull i ?_
        rw [Nat.testBit_or, Bool.or_eq_true]
        refine .inr ?_
        unfold prefN
        exact (orF_bit _ _ _).2 ⟨i, List.mem_range.2 hi, Int.toNat_natCast i⟩
    rw [e, fAnn_full hg] at h2
    exact h2
  · obtain ⟨c, h1, h2⟩ := fAnn_chain hg (bitsN h) 0 1 (fun x hx => el_of hg hs.1 ((mem_bits h24 x).1 hx)) (Nat.two_pow_pos _) (sg_one hg)
    rw [Nat.zero_or, prefN_all h24] at h1
    rw [h1.one (clo_self hg hs), fAnn_one hg] at h2
    exact h2
/-- The annihilator's annihilator is the subgroup. -/
theorem ann_back {l : List Int} (hg : grpB l = true) {h : Nat} (hs : IsSg l h) : annN l (annN l h) = h := by
  have hP := (ords_grp hg).prod
  have h24 := grp_pow hg hs.1
  have h1 := ann_size hg hs
  have hA := ann_sg hg h24
  have h2 := ann_size hg hA
  have hpart := ann_ann hg hs.1
  have hB24 := grp_pow hg (ann_lt l (annN l h))
  have h3 : (bitsN (annN l (annN l h))).length = (bitsN h).length := by
    have hp : 0 < (bitsN (annN l h)).length := List.length_pos_of_mem ((mem_bits (grp_pow hg hA.1) 0).2 hA.2.1)
    rw [Nat.mul_comm] at h1
    exact Nat.eq_of_mul_eq_mul_left hp (by rw [h2, h1])
  refine bits_same fun i => ⟨fun hi => ?_, fun hi => hpart i hi⟩
  -- as many elements, and all of h among them
  cases hb : h.testBit i with
  | true => rfl
  | false =>
    exfalso
    have h4 := len_le_of_sub (i :: bitsN h) (bitsN (annN l (annN l h))) (by
      rw [List.nodup_cons]
      exact ⟨fun hm => (by rw [mem_bits h24, hb] at hm; cases hm), bits_nodup _⟩) (fun x hx => by
      rcases List.mem_cons.1 hx with rfl | hx
      · exact (mem_bits hB24 _).2 hi
      · exact (mem_bits hB24 x).2 (hpart x ((mem_bits h24 x).1 hx)))
    rw [List.length_cons, h3] at h4
    omega
end Go.Proofs.YthlpjiibjlaebaaGreatDoor
