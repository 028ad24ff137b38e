/- Vosper's theorem in a finite commutative group in which each step reaches all: two sets with a sum as small as it can be have a common difference. Plain mathematics. -/
import Derived.Test.YtfkleihnafeoeaaGreatDoorKneser
namespace Go.Proofs.YtfkleihnafeoeaaGreatDoor
theorem cd_full : ∀ N, cd N (fun _ => true) = N
  | 0 => rfl
  | n + 1 => by
    have := cd_full n
    unfold cd at this ⊢
    simp only [sm]
    rw [this]
    rfl
theorem cd_single {N v : Nat} (h : v < N) : cd N (fun x => decide (v = x)) = 1 := by
  have e : cd N (fun x => decide (v = x)) = sm (fun s => if v = s then (fun _ => 1) s else 0) N := sm_congr (fun i _ => by
    by_cases g : v = i
    · simp [g]
    · simp [g])
  rw [e, sm_one, if_pos h]
theorem cd_le_one {N : Nat} {P : Nat → Bool} (h : ∀ x y, x < N → y < N → P x = true → P y = true → x = y) : cd N P ≤ 1 := by
  rcases Nat.eq_zero_or_pos (cd N P) with h0 | h0
  · omega
  · obtain ⟨v, hv, hp⟩ := cd_ex h0
    rw [← cd_single hv]
    exact cd_le (fun i hi hq => by simp [h v i hv hi hp hq])
theorem cd_uniq {N : Nat} {P : Nat → Bool} (h : cd N P ≤ 1) {x y : Nat} (hx : x < N) (hy : y < N) (px : P x = true) (py : P y = true) : x = y := by
  apply Classical.byContradiction
  intro hn
  have h1 := cd_split N P (fun z => decide (x = z))
  have h2 : 0 < cd N (fun i => P i && decide (x = i)) := cd_pos hx (by simp [px])
  have h3 : 0 < cd N (fun i => P i && !decide (x = i)) := cd_pos hy (by simp [py, hn])
  omega
theorem cd_not (N : Nat) (P : Nat → Bool) : cd N P + cd N (fun z => !P z) = N := by
  have h := cd_split N (fun _ => true) P
  simp only [Bool.true_and] at h
  rw [cd_full] at h
  exact h
/-- The sums of two sets. -/
def IsSum (N : Nat) (ad : Nat → Nat → Nat) (A B S : Nat → Bool) : Prop := ∀ z, z < N → (S z = true ↔ ∃ x y, x < N ∧ y < N ∧ A x = true ∧ B y = true ∧ ad x y = z)
def sumS (N : Nat) (ad : Nat → Nat → Nat) (ng : Nat → Nat) (A B : Nat → Bool) (z : Nat) : Bool := (List.range N).any fun x => A x && B (ad z (ng x))
/-- Each step but 0 reaches all. -/
def Whole (N : Nat) (ad : Nat → Nat → Nat) : Prop := ∀ (d : Nat) (C : Nat → Bool), d < N → d ≠ 0 → (∀ z, z < N → C z = true → C (ad z d) = true) → (∃ z, z < N ∧ C z = true) → ∀ z, z < N → C z = true
/-- How many elements of a set a step leads out of it. -/
def ends (N : Nat) (ad : Nat → Nat → Nat) (C : Nat → Bool) (d : Nat) : Nat := cd N (fun z => C z && !C (ad z d))
section
variable {N : Nat} {ad : Nat → Nat → Nat} {ng : Nat → Nat} (G : Abel N ad ng)
include G
theorem sumS_is (A B : Nat → Bool) : IsSum N ad A B (sumS N ad ng A B) := fun z hz => by
  unfold sumS
  rw [List.any_eq_true]
  constructor
  · rintro ⟨x, hx, h⟩
    rw [Bool.and_eq_true] at h
    exact ⟨x, ad z (ng x), List.mem_range.1 hx, G.lt _ _, h.1, h.2, by rw [G.comm]; exact ab_forth G x hz⟩
  · rintro ⟨x, y, hx, hy, hA, hB, e⟩
    refine ⟨x, List.mem_range.2 hx, ?_⟩
    rw [Bool.and_eq_true, ← e, G.comm x y, ab_back G x hy]
    exact ⟨hA, hB⟩
theorem isSum_comm {A B S : Nat → Bool} (h : IsSum N ad A B S) : IsSum N ad B A S := fun z hz => by
  rw [h z hz]
  constructor
  · rintro ⟨x, y, hx, hy, hA, hB, e⟩; exact ⟨y, x, hy, hx, hB, hA, by rw [G.comm]; exact e⟩
  · rintro ⟨x, y, hx, hy, hA, hB, e⟩; exact ⟨y, x, hy, hx, hB, hA, by rw [G.comm]; exact e⟩
theorem ng_ng {x : Nat} (hx : x < N) : ng (ng x) = x := by
  have h := ab_back G (x := x) (ng x) hx
  rw [G.neg, G.comm, G.zero _ (G.nlt _)] at h
  exact h
theorem ng_ad (x y : Nat) : ng (ad x y) = ad (ng x) (ng y) := by
  have h : ad (ad (ng x) (ng y)) (ad x y) = 0 := by
    rw [G.assoc, G.comm x y, ← G.assoc (ng y), G.comm (ng y) y, G.neg, G.comm 0 x, ← G.assoc, G.comm (ng x) x, G.neg, G.zero 0 G.pos]
  have h2 := ab_back G (x := ad (ng x) (ng y)) (ad x y) (G.lt _ _)
  rw [h, G.comm, G.zero _ (G.nlt _)] at h2
  exact h2
/-- Negatives keep sizes. -/
theorem cd_neg (Q : Nat → Bool) : cd N (fun z => Q (ng z)) = cd N Q := by
  unfold cd
  have e1 : sm (fun z => (Q (ng z)).toNat) N = sm (fun z => sm (fun y => if ng z = y then (Q y).toNat else 0) N) N := sm_congr (fun z _ => by
    rw [sm_one, if_pos (G.nlt z)])
  rw [e1, sm_swap]
  refine sm_congr (fun y hy => ?_)
  have e2 : sm (fun z => if ng z = y then (Q y).toNat else 0) N = sm (fun z => if ng y = z then (fun _ => (Q y).toNat) z else 0) N := sm_congr (fun z hz => by
    by_cases h : ng z = y
    · rw [if_pos h, if_pos (by rw [← h, ng_ng G hz])]
    · rw [if_neg h, if_neg (fun h2 => h (by rw [← h2, ng_ng G hy]))])
  rw [e2, sm_one, if_pos (G.nlt _)]
/-- What leads out of a set is as much as what leads in. -/
theorem flow (C : Nat → Bool) (d : Nat) : cd N (fun z => !C z && C (ad z d)) = ends N ad C d := by
  have h1 := cd_split N C (fun z => C (ad z d))
  have h2 := cd_split N (fun z => C (ad z d)) C
  have h3 := cd_shift G C d
  have e1 : cd N (fun z => C (ad z d) && C z) = cd N (fun z => C z && C (ad z d)) := cd_congr (fun _ _ => Bool.and_comm _ _)
  have e2 : cd N (fun z => C (ad z d) && !C z) = cd N (fun z => !C z && C (ad z d)) := cd_congr (fun _ _ => Bool.and_comm _ _)
  unfold ends
  omega
/-- The bound of Cauchy and Davenport. -/
theorem cd_dav (W : Whole N ad) {A B S : Nat → Bool} (hS : IsSum N ad A B S) (hA : 0 < cd N A) (hB : 0 < cd N B) : cd N S = N ∨ cd N A + cd N B ≤ cd N S + 1 := by
  obtain ⟨a, ha, hA⟩ := cd_ex hA
  obtain ⟨b, hb, hB⟩ := cd_ex hB
  have k := kn_first G hS hb hB
  by_cases h : ∃ d, d < N ∧ d ≠ 0 ∧ stb N ad S d = true
  · obtain ⟨d, hd, h0, hs⟩ := h
    left
    have w := W d S hd h0 (fun z hz h => by rw [stb_iff.1 hs z hz]; exact h) ⟨ad a b, G.lt _ _, (hS _ (G.lt _ _)).2 ⟨a, b, ha, hb, hA, hB, rfl⟩⟩
    rw [cd_congr (Q := fun _ => true) w, cd_full]
  · right
    have : cd N (stb N ad S) ≤ 1 := by
      rw [← cd_single G.pos]
      exact cd_le (fun i hi hp => by
        by_cases e : i = 0
        · simp [e]
        · exact absurd ⟨i, hi, e, hp⟩ h)
    omega
/-- A set beside one of one run has one run, if the sum is as small as it can be. -/
theorem vo_step (W : Whole N ad) {A B S : Nat → Bool} {d : Nat} (hS : IsSum N ad A B S) (hE : ends N ad A d ≤ 1) (hA : 2 ≤ cd N A) (hB : 0 < cd N B) (hs : cd N S + 1 ≤ cd N A + cd N B) (hN : cd N S < N) : ends N ad B d ≤ 1 := by
  have a1 := cd_split N A (fun z => A (ad z d))
  have hT := sumS_is G (fun z => A z && A (ad z d)) (fun z => B z || B (ad z (ng d)))
  have hsub : cd N (sumS N ad ng (fun z => A z && A (ad z d)) (fun z => B z || B (ad z (ng d)))) ≤ cd N S := cd_le (fun z hz h => by
    obtain ⟨x, y, hx, hy, h1, h2, e⟩ := (hT z hz).1 h
    rw [Bool.and_eq_true] at h1
    rw [Bool.or_eq_true] at h2
    rcases h2 with h2 | h2
    · exact (hS z hz).2 ⟨x, y, hx, hy, h1.1, h2, e⟩
    · refine (hS z hz).2 ⟨ad x d, ad y (ng d), G.lt _ _, G.lt _ _, h1.2, h2, ?_⟩
      rw [← e, G.assoc, G.comm d, ab_forth G d hy])
  have b1 := cd_or N B (fun z => B (ad z (ng d)))
  rw [cd_shift G B (ng d)] at b1
  have b2 := cd_split N B (fun z => B (ad z (ng d)))
  have b3 : cd N (fun z => B z && !B (ad z (ng d))) = ends N ad B d := by
    rw [← flow G B d, ← cd_shift G (fun z => B z && !B (ad z (ng d))) d]
    exact cd_congr (fun z hz => by
      show (B (ad z d) && !B (ad (ad z d) (ng d))) = _
      rw [ab_back G d hz, Bool.and_comm])
  have hE' : cd N (fun z => A z && !A (ad z d)) ≤ 1 := hE
  rcases cd_dav G W hT (by omega) (by omega) with h | h
  · omega
  · omega
/-- Both sets have one run, if their sum has. -/
theorem vo_sum (W : Whole N ad) {A B S : Nat → Bool} {d : Nat} (hS : IsSum N ad A B S) (hE : ends N ad S d ≤ 1) (hA : 0 < cd N A) (hB : 0 < cd N B) (hs : cd N S + 1 = cd N A + cd N B) (hN : cd N S + 2 ≤ N) : ends N ad B d ≤ 1 := by
  have d1 := cd_not N S
  have a1 := cd_not N A
  have hT := sumS_is G (fun z => !S z) (fun z => B (ng z))
  have hb := cd_neg G B
  have hED : ends N ad (fun z => !S z) d ≤ 1 := by
    have e : ends N ad (fun z => !S z) d = cd N (fun z => !S z && S (ad z d)) := cd_congr (fun z _ => by simp)
    rw [e, flow G S d]
    exact hE
  have hsub : cd N (sumS N ad ng (fun z => !S z) (fun z => B (ng z))) ≤ cd N (fun z => !A z) := cd_le (fun z hz h => by
    obtain ⟨x, y, hx, hy, h1, h2, e⟩ := (hT z hz).1 h
    cases hz2 : A z with
    | false => rfl
    | true =>
      have : S x = true := (hS x hx).2 ⟨z, ng y, hz, G.nlt _, hz2, h2, by rw [← e, ab_back G y hx]⟩
      have h1' : (!S x) = true := h1
      rw [this] at h1'
      cases h1')
  have key := vo_step G W hT hED (by omega) (by omega) (by omega) (by omega)
  have e1 : ends N ad (fun z => B (ng z)) d = cd N (fun w => B w && !B (ad w (ng d))) := by
    unfold ends
    rw [← cd_neg G (fun w => B w && !B (ad w (ng d)))]
    exact cd_congr (fun z _ => by show (B (ng z) && !B (ng (ad z d))) = _; rw [ng_ad G])
  have e2 : cd N (fun w => B w && !B (ad w (ng d))) = ends N ad B d := by
    rw [← flow G B d, ← cd_shift G (fun z => B z && !B (ad z (ng d))) d]
    exact cd_congr (fun z hz => by
      show (B (ad z d) && !B (ad (ad z d) (ng d))) = _
      rw [ab_back G d hz, Bool.and_comm])
  omega
/-- A sum of sets of one run has one run. -/
theorem vo_runs {A B S : Nat → Bool} {d : Nat} (hS : IsSum N ad A B S) (h1 : ends N ad A d ≤ 1) (h2 : ends N ad B d ≤ 1) : ends N ad S d ≤ 1 := by
  have lead : ∀ z, z < N → (S z && !S (ad z d)) = true → ∃ x y, x < N ∧ y < N ∧ (A x && !A (ad x d)) = true ∧ (B y && !B (ad y d)) = true ∧ ad x y = z := fun z hz h => by
    rw [Bool.and_eq_true] at h
    obtain ⟨x, y, hx, hy, hA, hB, e⟩ := (hS z hz).1 h.1
    have hno : S (ad z d) = false := by simpa using h.2
    refine ⟨x, y, hx, hy, ?_, ?_, e⟩
    · cases g : A (ad x d) with
      | false => rw [hA]; rfl
      | true =>
        have := (hS (ad z d) (G.lt _ _)).2 ⟨ad x d, y, G.lt _ _, hy, g, hB, by rw [← e, G.assoc, G.comm d y, ← G.assoc]⟩
        rw [this] at hno
        cases hno
    · cases g : B (ad y d) with
      | false => rw [hB]; rfl
      | true =>
        have := (hS (ad z d) (G.lt _ _)).2 ⟨x, ad y d, hx, G.lt _ _, hA, g, by rw [← e, G.assoc]⟩
        rw [this] at hno
        cases hno
  refine cd_le_one (fun u v hu hv pu pv => ?_)
  obtain ⟨x, y, hx, hy, a1, b1, e1⟩ := lead u hu pu
  obtain ⟨x', y', hx', hy', a2, b2, e2⟩ := lead v hv pv
  rw [← e1, ← e2, cd_uniq (P := fun z => A z && !A (ad z d)) h1 hx hx' a1 a2, cd_uniq (P := fun z => B z && !B (ad z d)) h2 hy hy' b1 b2]
/-- Vosper's theorem. -/
theorem vosper (W : Whole N ad) : ∀ (n : Nat) (A B S : Nat → Bool), cd N B ≤ n → 2 ≤ cd N A → 2 ≤ cd N B → IsSum N ad A B S → cd N S + 1 = cd N A + cd N B → cd N S + 2 ≤ N →
    ∃ d, d < N ∧ d ≠ 0 ∧ ends N ad A d ≤ 1 ∧ ends N ad B d ≤ 1
  | 0, _, _, _, hn, _, h2, _, _, _ => absurd hn (by omega)
  | n + 1, A, B, S, hn, hA, hB, hS, hs, hN => by
    obtain ⟨b, hb, hBb⟩ := cd_ex (N := N) (P := B) (by omega)
    have bs := cd_split N B (fun z => decide (b = z))
    have bone : cd N (fun z => B z && decide (b = z)) ≤ 1 := cd_le_one (fun x y _ _ hx hy => by
      simp only [Bool.and_eq_true, decide_eq_true_eq] at hx hy
      rw [← hx.2, ← hy.2])
    by_cases h2 : cd N B = 2
    · obtain ⟨c, hc, hBc⟩ := cd_ex (N := N) (P := fun z => B z && !decide (b = z)) (by omega)
      simp only [Bool.and_eq_true, Bool.not_eq_true', decide_eq_false_iff_not] at hBc
      have hstep : ad b (ad c (ng b)) = c := by rw [G.comm, ab_forth G b hc]
      have hE : ends N ad B (ad c (ng b)) ≤ 1 := by
        have s1 := cd_split N B (fun z => B (ad z (ad c (ng b))))
        have s2 : 0 < cd N (fun z => B z && B (ad z (ad c (ng b)))) := cd_pos hb (by rw [hstep, hBb, hBc.1]; rfl)
        unfold ends
        omega
      refine ⟨ad c (ng b), G.lt _ _, fun h0 => ?_, ?_, hE⟩
      · rw [h0, G.zero b hb] at hstep
        exact hBc.2 hstep
      · exact vo_step G W (isSum_comm G hS) hE hB (by omega) (by omega) (by omega)
    -- the sets that a transform makes
    have hsum : ∀ e, cd N (fun z => A z || B (ad z (ng e))) + cd N (fun z => B z && A (ad z e)) = cd N A + cd N B := fun e => by
      have c1 := cd_or N A (fun z => B (ad z (ng e)))
      rw [cd_shift G B (ng e)] at c1
      have c2 : cd N (fun z => A z && B (ad z (ng e))) = cd N (fun z => B z && A (ad z e)) := by
        rw [← cd_shift G (fun z => A z && B (ad z (ng e))) e]
        exact cd_congr (fun z hz => by rw [ab_back G e hz, Bool.and_comm])
      rw [c2] at c1
      exact c1
    by_cases hex : ∃ a, a < N ∧ A a = true ∧ 2 ≤ cd N (fun z => B z && A (ad z (ad a (ng b)))) ∧ cd N (fun z => B z && A (ad z (ad a (ng b)))) < cd N B
    · obtain ⟨a, ha, hAa, g2, gl⟩ := hex
      generalize hee : ad a (ng b) = e at *
      have hT := sumS_is G (fun z => A z || B (ad z (ng e))) (fun z => B z && A (ad z e))
      have hsub : ∀ z, z < N → sumS N ad ng (fun z => A z || B (ad z (ng e))) (fun z => B z && A (ad z e)) z = true → S z = true := fun z hz h => by
        obtain ⟨x, y, hx, hy, h1, h2, e1⟩ := (hT z hz).1 h
        rw [Bool.or_eq_true] at h1
        rw [Bool.and_eq_true] at h2
        rcases h1 with h1 | h1
        · exact (hS z hz).2 ⟨x, y, hx, hy, h1, h2.1, e1⟩
        · refine (hS z hz).2 ⟨ad y e, ad x (ng e), G.lt _ _, G.lt _ _, h2.2, h1, ?_⟩
          rw [← e1, G.assoc, G.comm e, ab_forth G e hx, G.comm]
      have hle := cd_le hsub
      have hbig : cd N A ≤ cd N (fun z => A z || B (ad z (ng e))) := cd_le (fun z _ h => by rw [h]; rfl)
      have hse := hsum e
      have heq : cd N S ≤ cd N (sumS N ad ng (fun z => A z || B (ad z (ng e))) (fun z => B z && A (ad z e))) := by
        rcases cd_dav G W hT (by omega) (by omega) with h | h
        · omega
        · omega
      have hsame := cd_same hsub heq
      have hS2 : IsSum N ad (fun z => A z || B (ad z (ng e))) (fun z => B z && A (ad z e)) S := fun z hz => by rw [← hsame z hz]; exact hT z hz
      obtain ⟨d, hd, hd0, e1, e2⟩ := vosper W n _ _ S (by omega) (by omega) g2 hS2 (by omega) hN
      have e3 := vo_runs G hS2 e1 e2
      exact ⟨d, hd, hd0, vo_sum G W (isSum_comm G hS) e3 (by omega) (by omega) (by omega) hN, vo_sum G W hS e3 (by omega) (by omega) hs hN⟩
    · exfalso
      -- E: only b stays; X: all of B fits
      have sp := cd_split N A (fun a => decide (cd N (fun z => B z && A (ad z (ad a (ng b)))) ≤ 1))
      have hX : ∀ a, a < N → (A a && !decide (cd N (fun z => B z && A (ad z (ad a (ng b)))) ≤ 1)) = true → ∀ y, y < N → B y = true → A (ad y (ad a (ng b))) = true := fun a ha h y hy hBy => by
        simp only [Bool.and_eq_true, Bool.not_eq_true', decide_eq_false_iff_not] at h
        have hle : cd N B ≤ cd N (fun z => B z && A (ad z (ad a (ng b)))) := by
          apply Classical.byContradiction
          intro hlt
          exact hex ⟨a, ha, h.1, by omega, by omega⟩
        have := cd_same (P := fun z => B z && A (ad z (ad a (ng b)))) (Q := B) (fun z _ h => (Bool.and_eq_true_iff.1 h).1) hle y hy
        rw [hBy] at this
        exact (Bool.and_eq_true_iff.1 this).2
      have tX : 0 < cd N (fun a => A a && !decide (cd N (fun z => B z && A (ad z (ad a (ng b)))) ≤ 1)) → cd N (fun a => A a && !decide (cd N (fun z => B z && A (ad z (ad a (ng b)))) ≤ 1)) + cd N B ≤ cd N A + 1 := fun h0 => by
        have hT := sumS_is G (fun a => A a && !decide (cd N (fun z => B z && A (ad z (ad a (ng b)))) ≤ 1)) B
        have hsub : cd N (sumS N ad ng (fun a => A a && !decide (cd N (fun z => B z && A (ad z (ad a (ng b)))) ≤ 1)) B) ≤ cd N A := by
          rw [← cd_shift G A (ng b)]
          refine cd_le (fun z hz h => ?_)
          obtain ⟨x, y, hx, hy, h1, h2, e1⟩ := (hT z hz).1 h
          have := hX x hx h1 y hy h2
          rw [← e1, G.comm x y, G.assoc]
          exact this
        rcases cd_dav G W hT h0 (by omega) with h | h
        · omega
        · omega
      have tE : 0 < cd N (fun a => A a && decide (cd N (fun z => B z && A (ad z (ad a (ng b)))) ≤ 1)) → cd N (fun a => A a && decide (cd N (fun z => B z && A (ad z (ad a (ng b)))) ≤ 1)) ≤ 1 := fun h0 => by
        have hT := sumS_is G (fun a => A a && decide (cd N (fun z => B z && A (ad z (ad a (ng b)))) ≤ 1)) (fun z => B z && !decide (b = z))
        have hsub : cd N (sumS N ad ng (fun a => A a && decide (cd N (fun z => B z && A (ad z (ad a (ng b)))) ≤ 1)) (fun z => B z && !decide (b = z))) ≤ cd N (fun z => S z && !A (ad z (ng b))) := cd_le (fun z hz h => by
          obtain ⟨x, y, hx, hy, h1, h2, e1⟩ := (hT z hz).1 h
          simp only [Bool.and_eq_true, Bool.not_eq_true', decide_eq_false_iff_not, decide_eq_true_eq] at h1 h2
          have hSz := (hS z hz).2 ⟨x, y, hx, hy, h1.1, h2.1, e1⟩
          cases g : A (ad z (ng b)) with
          | false => rw [hSz]; rfl
          | true =>
            rw [← e1, G.comm x y, G.assoc] at g
            refine absurd (cd_uniq h1.2 hb hy ?_ ?_) h2.2
            · show (B b && A (ad b (ad x (ng b)))) = true
              rw [G.comm b, ab_forth G b hx, hBb, h1.1]
              rfl
            · show (B y && A (ad y (ad x (ng b)))) = true
              rw [h2.1, g]
              rfl)
        have s1 := cd_split N S (fun z => A (ad z (ng b)))
        have s2 : cd N A ≤ cd N (fun z => S z && A (ad z (ng b))) := by
          rw [← cd_shift G A (ng b)]
          refine cd_le (fun z hz h => ?_)
          have : S z = true := (hS z hz).2 ⟨ad z (ng b), b, G.lt _ _, hb, h, hBb, ab_forth G b hz⟩
          rw [this]
          exact h
        rcases cd_dav G W hT h0 (by omega) with h | h
        · omega
        · omega
      omega
end
/-- Steps from an element on. -/
def stp (ad : Nat → Nat → Nat) (d x : Nat) : Nat → Nat
  | 0 => x
  | i + 1 => ad (stp ad d x i) d
theorem stp_add (ad : Nat → Nat → Nat) (d : Nat) {x y : Nat} (i j : Nat) (h : stp ad d x i = stp ad d y j) : ∀ k, stp ad d x (i + k) = stp ad d y (j + k)
  | 0 => h
  | k + 1 => by
    show ad (stp ad d x (i + k)) d = ad (stp ad d y (j + k)) d
    rw [stp_add ad d i j h k]
theorem least_false {P : Nat → Bool} : ∀ (n i : Nat), i < n → P i = false → ∃ m, P m = false ∧ ∀ j, j < m → P j = true
  | 0, i, hi, _ => absurd hi (by omega)
  | n + 1, i, hi, h => by
    by_cases g : ∃ j, j < i ∧ P j = false
    · obtain ⟨j, hj, hp⟩ := g
      exact least_false n j (by omega) hp
    · exact ⟨i, h, fun j hj => by
        cases e : P j with
        | true => rfl
        | false => exact absurd ⟨j, hj, e⟩ g⟩
theorem cd_steps {N : Nat} {f : Nat → Nat} (hf : ∀ i, f i < N) : ∀ m, (∀ i j, i < j → j < m → f i ≠ f j) → cd N (fun z => (List.range m).any fun i => f i == z) = m
  | 0, _ => by
    have : cd N (fun z => (List.range 0).any fun i => f i == z) = cd N (fun _ => false) := cd_congr (fun z _ => by simp)
    rw [this]
    exact sm_zero N
  | m + 1, h => by
    have ih := cd_steps hf m (fun i j hij hj => h i j hij (by omega))
    have e := cd_or N (fun z => (List.range m).any fun i => f i == z) (fun z => decide (f m = z))
    rw [ih, cd_single (hf m)] at e
    have e2 : cd N (fun z => ((List.range m).any fun i => f i == z) && decide (f m = z)) = 0 := by
      rcases Nat.eq_zero_or_pos (cd N (fun z => ((List.range m).any fun i => f i == z) && decide (f m = z))) with g | g
      · exact g
      · obtain ⟨z, _, hz⟩ := cd_ex g
        rw [Bool.and_eq_true, List.any_eq_true] at hz
        obtain ⟨⟨i, hi, h1⟩, h2⟩ := hz
        exact absurd ((beq_iff_eq.1 h1).trans (of_decide_eq_true h2).symm) (h i m (List.mem_range.1 hi) (by omega))
    have e3 : cd N (fun z => (List.range (m + 1)).any fun i => f i == z) = cd N (fun z => ((List.range m).any fun i => f i == z) || decide (f m = z)) := cd_congr (fun z _ => by
      rw [List.range_succ, List.any_append]
      congr 1
      by_cases g : f m = z
      · simp [g]
      · simp [g])
    omega
section
variable {N : Nat} {ad : Nat → Nat → Nat} {ng : Nat → Nat} (G : Abel N ad ng)
include G
/-- A set of one run is made of steps. -/
theorem run_list (W : Whole N ad) {C : Nat → Bool} {d : Nat} (hd : d < N) (h0 : d ≠ 0) (hE : ends N ad C d ≤ 1) (hC : 0 < cd N C) (hN : cd N C < N) :
    ∃ x, x < N ∧ C x = true ∧ ∀ z, z < N → (C z = true ↔ ∃ i, i < cd N C ∧ stp ad d x i = z) := by
  obtain ⟨c, hc, hCc⟩ := cd_ex hC
  have hout : ∃ u, u < N ∧ C u = false := by
    obtain ⟨u, hu, hp⟩ := cd_ex (N := N) (P := fun z => !C z) (by have := cd_not N C; omega)
    exact ⟨u, hu, by simpa using hp⟩
  obtain ⟨u, hu, hCu⟩ := hout
  have hst : 0 < cd N (fun z => !C z && C (ad z d)) := by
    rw [flow G]
    rcases Nat.eq_zero_or_pos (ends N ad C d) with g | g
    · have : ∀ z, z < N → C z = true → C (ad z d) = true := fun z hz h => by
        cases e : C (ad z d) with
        | true => rfl
        | false =>
          have := cd_pos (P := fun z => C z && !C (ad z d)) hz (by show (C z && !C (ad z d)) = true; rw [h, e]; rfl)
          unfold ends at g
          omega
      have w := W d C hd h0 this ⟨c, hc, hCc⟩ u hu
      rw [hCu] at w
      cases w
    · exact g
  obtain ⟨w, hw, hp⟩ := cd_ex hst
  simp only [Bool.and_eq_true, Bool.not_eq_true'] at hp
  obtain ⟨x, hx⟩ : ∃ x, ad w d = x := ⟨_, rfl⟩
  have hxN : x < N := by rw [← hx]; exact G.lt _ _
  have hCx : C x = true := by rw [← hx]; exact hp.2
  have hstpN : ∀ i, stp ad d x i < N := fun i => by
    cases i with
    | zero => exact hxN
    | succ i => exact G.lt _ _
  -- the first step out of C
  have hfin : ∃ i, C (stp ad d x i) = false := by
    have dec : ∀ z, Decidable (∃ i, stp ad d x i = z) := fun _ => Classical.propDecidable _
    have all := W d (fun z => decide (∃ i, stp ad d x i = z)) hd h0 (fun z _ h => by
      obtain ⟨i, hi⟩ := of_decide_eq_true h
      exact decide_eq_true ⟨i + 1, by show ad (stp ad d x i) d = _; rw [hi]⟩) ⟨x, hxN, decide_eq_true ⟨0, rfl⟩⟩ u hu
    obtain ⟨i, hi⟩ := of_decide_eq_true all
    exact ⟨i, by rw [hi]; exact hCu⟩
  obtain ⟨i0, hi0⟩ := hfin
  obtain ⟨m, hm, hlt⟩ := least_false (P := fun i => C (stp ad d x i)) (i0 + 1) i0 (by omega) hi0
  have hm0 : m ≠ 0 := fun e => by
    subst e
    have : C x = false := hm
    rw [hCx] at this
    cases this
  obtain ⟨k, rfl⟩ : ∃ k, m = k + 1 := ⟨m - 1, by omega⟩
  have hend : (C (stp ad d x k) && !C (ad (stp ad d x k) d)) = true := by
    have h1 : C (stp ad d x k) = true := hlt k (by omega)
    have h2 : C (ad (stp ad d x k) d) = false := hm
    rw [h1, h2]
    rfl
  have hall : ∀ z, z < N → C z = true → ((List.range (k + 1)).any fun i => stp ad d x i == z) = true := fun z hz hCz => by
    cases g : (List.range (k + 1)).any fun i => stp ad d x i == z with
    | true => rfl
    | false =>
      exfalso
      have key := W d (fun z => C z && !((List.range (k + 1)).any fun i => stp ad d x i == z)) hd h0 (fun z hz h => by
        simp only [Bool.and_eq_true, Bool.not_eq_true'] at h
        have hn : ∀ i, i < k + 1 → stp ad d x i ≠ z := fun i hi e => by
          have : ((List.range (k + 1)).any fun i => stp ad d x i == z) = true := List.any_eq_true.2 ⟨i, List.mem_range.2 hi, by simp [e]⟩
          rw [this] at h
          cases h.2
        have h1 : C (ad z d) = true := by
          cases g2 : C (ad z d) with
          | true => rfl
          | false =>
            exact absurd (cd_uniq (P := fun z => C z && !C (ad z d)) hE (hstpN k) hz hend (by show (C z && !C (ad z d)) = true; rw [h.1, g2]; rfl)) (hn k (by omega))
        show (C (ad z d) && !((List.range (k + 1)).any fun i => stp ad d x i == ad z d)) = true
        rw [h1]
        cases g3 : (List.range (k + 1)).any fun i => stp ad d x i == ad z d with
        | false => rfl
        | true =>
          exfalso
          obtain ⟨i, hi, e⟩ := List.any_eq_true.1 g3
          have hi := List.mem_range.1 hi
          have e : stp ad d x i = ad z d := beq_iff_eq.1 e
          cases i with
          | zero =>
            have e' : ad w d = ad z d := by rw [hx]; exact e
            have : w = z := by rw [← ab_back G d hw, e', ab_back G d hz]
            rw [this, h.1] at hp
            cases hp.1
          | succ j =>
            have e' : ad (stp ad d x j) d = ad z d := e
            have : stp ad d x j = z := by rw [← ab_back G d (hstpN j), e', ab_back G d hz]
            exact hn j (by omega) this) ⟨z, hz, by rw [hCz, g]; rfl⟩ x hxN
      simp only [Bool.and_eq_true, Bool.not_eq_true'] at key
      have : ((List.range (k + 1)).any fun i => stp ad d x i == x) = true := List.any_eq_true.2 ⟨0, List.mem_range.2 (by omega), by simp [stp]⟩
      rw [this] at key
      cases key.2
  have hdis : ∀ i j, i < j → j < k + 1 → stp ad d x i ≠ stp ad d x j := fun i j hij hj e => by
    have h1 := stp_add ad d i j e (k + 1 - j)
    have h2 : C (stp ad d x (i + (k + 1 - j))) = true := hlt _ (by omega)
    have h3 : j + (k + 1 - j) = k + 1 := by omega
    rw [h1, h3] at h2
    have h4 : C (stp ad d x (k + 1)) = false := hm
    rw [h4] at h2
    cases h2
  have hcd : cd N C = k + 1 := by
    rw [← cd_steps hstpN (k + 1) hdis]
    refine cd_congr (fun z hz => ?_)
    apply Bool.eq_iff_iff.2
    constructor
    · exact hall z hz
    · intro h
      obtain ⟨i, hi, e⟩ := List.any_eq_true.1 h
      rw [← beq_iff_eq.1 e]
      exact hlt i (List.mem_range.1 hi)
  refine ⟨x, hxN, hCx, fun z hz => ?_⟩
  rw [hcd]
  constructor
  · intro h
    obtain ⟨i, hi, e⟩ := List.any_eq_true.1 (hall z hz h)
    exact ⟨i, List.mem_range.1 hi, beq_iff_eq.1 e⟩
  · rintro ⟨i, hi, rfl⟩
    exact hlt i hi
end
end Go.Proofs.YtfkleihnafeoeaaGreatDoor
