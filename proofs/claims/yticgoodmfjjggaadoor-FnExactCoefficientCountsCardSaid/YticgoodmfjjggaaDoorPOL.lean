/- Merged: PolMath PolRest PolQuot PolCyc PolIsZ. -/
import Derived.Test.YticgoodmfjjggaaDoorZER
import Derived.Test.YticgoodmfjjggaaDoorCHB
namespace Go.Proofs.YticgoodmfjjggaaDoor
theorem small_mul {f d : Int} (h1 : -1 ≤ d) (h2 : d ≤ 1) {B : Int} (b1 : -B ≤ f) (b2 : f ≤ B) : -B ≤ f * d ∧ f * d ≤ B := by
  have h : d = -1 ∨ d = 0 ∨ d = 1 := by omega
  rcases h with rfl | rfl | rfl <;> omega
theorem restR_bnd {p d : List Int} (bp : ∀ m, -1000 ≤ p.getD m 0 ∧ p.getD m 0 ≤ 1000) (bd : ∀ m, -1 ≤ d.getD m 0 ∧ d.getD m 0 ≤ 1) : ∀ j, j ≤ rounds7 p d → ∀ m, -(1000 * 2 ^ j) ≤ (restR p d j).getD m 0 ∧ (restR p d j).getD m 0 ≤ 1000 * 2 ^ j
  | 0, _, m => by simpa [restR] using bp m
  | j + 1, hj, m => by
    unfold rounds7 at hj
    have ih := restR_bnd bp bd j (by unfold rounds7; omega)
    have h2 : (1000 : Int) * 2 ^ (j + 1) = 1000 * 2 ^ j + 1000 * 2 ^ j := by rw [Int.pow_succ, ← Int.mul_assoc]; omega
    rw [h2]
    simp only [restR]
    have hf := ih (p.length - d.length - j + d.length - 1)
    by_cases hd : d.length = 0
    · have : subP7 d (p.length - d.length - j) ((restR p d j).getD (p.length - d.length - j + d.length - 1) 0) (restR p d j) d.length = restR p d j := by rw [hd]; rfl
      rw [this]
      have := ih m
      have h3 : (0 : Int) ≤ 1000 * 2 ^ j := Int.mul_nonneg (by decide) (Int.pow_nonneg (by decide))
      omega
    · rw [subP7_getD _ (by rw [restR_len]; omega)]
      have h4 := ih m
      split
      · have := small_mul (bd (m - (p.length - d.length - j))).1 (bd (m - (p.length - d.length - j))).2 hf.1 hf.2
        omega
      · have h3 : (0 : Int) ≤ 1000 * 2 ^ j := Int.mul_nonneg (by decide) (Int.pow_nonneg (by decide))
        omega
theorem pow_25 {j : Nat} (h : j ≤ 25) : (1000 : Int) * 2 ^ j ≤ 33554432000 := by
  have h1 : 2 ^ j ≤ 2 ^ 25 := Nat.pow_le_pow_right (by decide) h
  have h2 : ((2 ^ j : Nat) : Int) ≤ ((2 ^ 25 : Nat) : Int) := Int.ofNat_le.2 h1
  have h3 : ((2 ^ j : Nat) : Int) = (2 : Int) ^ j := by simp
  rw [h3] at h2
  have h4 : ((2 ^ 25 : Nat) : Int) = 33554432 := by decide
  rw [h4] at h2
  omega
/-- All numbers that come up within a division. -/
theorem sub_bnd {p d : List Int} (bp : ∀ m, -1000 ≤ p.getD m 0 ∧ p.getD m 0 ≤ 1000) (bd : ∀ m, -1 ≤ d.getD m 0 ∧ d.getD m 0 ≤ 1) {j : Nat} (hj : j < rounds7 p d) (h25 : j ≤ 24) (k : Nat) (hk : k ≤ d.length) (m : Nat) :
    -67108864000 ≤ (subP7 d (p.length - d.length - j) ((restR p d j).getD (p.length - d.length - j + d.length - 1) 0) (restR p d j) k).getD m 0 ∧ (subP7 d (p.length - d.length - j) ((restR p d j).getD (p.length - d.length - j + d.length - 1) 0) (restR p d j) k).getD m 0 ≤ 67108864000 := by
  unfold rounds7 at hj
  have ih := restR_bnd bp bd j (by unfold rounds7; omega)
  have hp := pow_25 (show j ≤ 25 by omega)
  have hf := ih (p.length - d.length - j + d.length - 1)
  rw [subP7_getD _ (by rw [restR_len]; omega)]
  have h4 := ih m
  split
  · have := small_mul (bd (m - (p.length - d.length - j))).1 (bd (m - (p.length - d.length - j))).2 hf.1 hf.2
    omega
  · omega
theorem quotR_len (p d : List Int) : ∀ j, (quotR p d j).length = rounds7 p d
  | 0 => by simp [quotR]
  | j + 1 => by
    simp only [quotR]
    rw [List.length_set, quotR_len p d j]
theorem cycK_congr {C C' : Nat → List Int} {n : Nat} : ∀ j, (∀ k, 0 < k → k < j → C k = C' k) → cycK C n j = cycK C' n j
  | 0, _ => rfl
  | j + 1, h => by
    simp only [cycK]
    rw [cycK_congr j (fun k h1 h2 => h k h1 (by omega))]
    by_cases h0 : j = 0
    · rw [if_pos h0, if_pos h0]
    · rw [if_neg h0, if_neg h0, h j (by omega) (by omega)]
theorem cycF_fuel : ∀ n f, n < f → cycF f n = cycL n := by
  intro n
  induction n using Nat.strongRecOn with
  | _ n ih =>
    intro f hf
    obtain ⟨g, rfl⟩ : ∃ g, f = g + 1 := ⟨f - 1, by omega⟩
    show cycK (cycF g) n n = cycK (cycF n) n n
    exact cycK_congr n (fun k _ hk => by rw [ih k hk g (by omega), ih k hk n hk])
theorem cycL_eq (n : Nat) : cycL n = cycK cycL n n := by
  show cycK (cycF n) n n = _
  exact cycK_congr n (fun k _ hk => cycF_fuel k n hk)
def bndB (B : Int) (l : List Int) : Bool := l.all fun x => decide (-B ≤ x) && decide (x ≤ B)
theorem bndB_at {B : Int} {l : List Int} (hB : 0 ≤ B) (h : bndB B l = true) (m : Nat) : -B ≤ l.getD m 0 ∧ l.getD m 0 ≤ B := by
  unfold bndB at h
  rw [List.all_eq_true] at h
  by_cases hm : m < l.length
  · have h1 := h (l.getD m 0) (by simp [List.getD, hm])
    simpa using h1
  · have : l.getD m 0 = 0 := by simp [List.getD, Nat.le_of_not_lt hm]
    rw [this]
    omega
def chkQ : Bool := (List.range 25).all fun n => bndB 1 (phL n) && ((List.range n).all fun k => k == 0 || (n % k != 0 || (bndB 1000 (cycK phL n k) && (decide ((cycK phL n k).length ≤ 25) && (decide ((phL k).length ≤ (cycK phL n k).length) && decide (1 ≤ (phL k).length))))))
set_option maxRecDepth 100000 in
theorem chkQ_all : chkQ = true := by decide +kernel
theorem quo_at {n k : Nat} (hn : n ≤ 24) (hk0 : 0 < k) (hk : k < n) (hd : n % k = 0) : (∀ m, -1000 ≤ (cycK cycL n k).getD m 0 ∧ (cycK cycL n k).getD m 0 ≤ 1000) ∧ (∀ m, -1 ≤ (cycL k).getD m 0 ∧ (cycL k).getD m 0 ≤ 1) ∧ (cycK cycL n k).length ≤ 25 ∧ (cycL k).length ≤ (cycK cycL n k).length ∧ 1 ≤ (cycL k).length := by
  have hc : ∀ k, 0 < k → k ≤ 24 → cycL k = phL k := fun k h0 h24 => by
    have h := chk_at h0 h24
    unfold chkE at h
    simp only [Bool.and_eq_true, beq_iff_eq] at h
    exact h.1
  have h := List.all_eq_true.1 chkQ_all n (List.mem_range.2 (by omega))
  rw [Bool.and_eq_true] at h
  have h1 := List.all_eq_true.1 h.2 k (List.mem_range.2 hk)
  have e1 : (k == 0) = false := by simp; omega
  have e2 : (n % k != 0) = false := by rw [hd]; rfl
  rw [e1, e2, Bool.false_or, Bool.false_or] at h1
  simp only [Bool.and_eq_true, decide_eq_true_eq] at h1
  have h3 := List.all_eq_true.1 chkQ_all k (List.mem_range.2 (by omega))
  rw [Bool.and_eq_true] at h3
  have e3 : cycK cycL n k = cycK phL n k := cycK_congr k (fun j h0 hj => hc j h0 (by omega))
  rw [e3, hc k hk0 (by omega)]
  exact ⟨fun m => bndB_at (by decide) h1.1 m, fun m => bndB_at (by decide) h3.1 m, h1.2.1, h1.2.2.1, h1.2.2.2⟩
theorem cyc_at {n : Nat} (hn : 0 < n) (h24 : n ≤ 24) : (∀ m, -1 ≤ (cycL n).getD m 0 ∧ (cycL n).getD m 0 ≤ 1) ∧ (cycL n).length ≤ n + 1 ∧ 1 ≤ (cycL n).length := by
  have h := chk_at hn h24
  unfold chkE at h
  simp only [Bool.and_eq_true, beq_iff_eq, decide_eq_true_eq] at h
  have h3 := List.all_eq_true.1 chkQ_all n (List.mem_range.2 (by omega))
  rw [Bool.and_eq_true] at h3
  rw [h.1]
  exact ⟨fun m => bndB_at (by decide) h3.1 m, h.2.2.2.2.1, h.2.2.1⟩
end Go.Proofs.YticgoodmfjjggaaDoor

namespace Go.Proofs.YticgoodmfjjggaaDoor
open Go.RowKit
set_option maxRecDepth 1000000
/-- A row that is not empty lies in a block of its own, from its start on. -/
theorem own_form7 {w : World} {B n : Nat} {v : Value} {xs : List Value} (h : w.ownsRow B 3 1 v n xs) (hn : 0 < n) : ∃ g cap, v = .slice (some ⟨g, 0, none⟩) n cap ∧ B ≤ g := by
  obtain ⟨h1, h2⟩ := h
  rcases h2 with ⟨h2, h3⟩ | ⟨g, cap, cur, hv, hb, _⟩
  · exfalso; rw [h3] at h1; simp at h1; omega
  · exact ⟨g, cap, hv, hb⟩
theorem map_set7 (l : List Int) (k : Nat) (x : Int) : (l.map (Value.int .i64)).set k (.int .i64 x) = (l.set k x).map (Value.int .i64) := by rw [List.map_set]
theorem map_at7 (l : List Int) {k : Nat} (h : k < l.length) : (l.map (Value.int .i64))[k]? = some (.int .i64 (l.getD k 0)) := by simp [List.getD, h]
set_option maxHeartbeats 4000000 in
theorem sRest (w : World) (a b : Option Addr) (p d : List Int) (n m ca cb : Nat) (hn : n = p.length) (hm : m = d.length) (hn1 : 1 ≤ n) (hn24 : n ≤ 25) (hm1 : 1 ≤ m) (hm25 : m ≤ 25) (bp : ∀ m, -1000 ≤ p.getD m 0 ∧ p.getD m 0 ≤ 1000) (bd : ∀ m, -1 ≤ d.getD m 0 ∧ d.getD m 0 ≤ 1) (hi : Ints w a p) (hj : Ints w b d) :
    Calls Tryd.prog 25 #[.slice a n ca, .slice b m cb] w fun e w' => ∃ v, e = .returned v ∧ w'.ownsRow w.heap.size 3 1 v n ((restP p d).map (Value.int .i64)) ∧ Below w.heap.size w w' := by
  obtain ⟨i0, hi0, hz0, hz1, hz2⟩ := info_parts intInfo
  have HI := Lib.hid hi
  have HJ := Lib.hid hj
  have HN := Lib.hid hn
  have HM := Lib.hid hm
  have HBP := Lib.hid bp
  have HBD := Lib.hid bd
  have HLT := Lib.hid (Joins.below_alloc1 w (.cells #[] 3))
  have O0 := Lib.hid (show (w.alloc (.cells #[] 3)).ownsRow w.heap.size 3 1 (.slice (some ⟨w.heap.size, 0, none⟩) 0 0) 0 [] from World.ownsRow_lit (base := w.heap.size) (e := 3) (size := 1) w #[] 0 (by simp) (by simp [maxLen]) rfl)
  have HPC : Hid (∃ ba oa, a = some ⟨ba, oa, none⟩ ∧ ba < w.heap.size ∧ ∀ q u, (p.map (Value.int .i64))[q]? = some u → (w.alloc (.cells #[] 3)).cell? ((⟨ba, oa, none⟩ : Addr).add q) = some u) := Lib.hid (by
    rcases hi with h0 | ⟨ba, oa, ha, hbl, hc⟩
    · rw [h0] at hn; simp at hn; omega
    · refine ⟨ba, oa, ha, hbl, fun q u hu => ?_⟩
      have hq : q < p.length := by
        rcases Nat.lt_or_ge q p.length with h | h
        · exact h
        · rw [List.getElem?_map, List.getElem?_eq_none h] at hu; cases hu
      have h1 := keepC (Joins.below_alloc1 w (.cells #[] 3)) (show (⟨ba, oa + q, none⟩ : Addr).block < w.heap.size from hbl) (hc q hq)
      rw [List.getElem?_map, List.getElem?_eq_getElem hq] at hu
      simp only [Option.map_some, Option.some.injEq] at hu
      rw [← hu]
      have hadd : (⟨ba, oa, none⟩ : Addr).add q = ⟨ba, oa + q, none⟩ := by by_cases h0 : q = 0 <;> simp [Addr.add, h0]
      rw [hadd]
      simpa [List.getD, hq] using h1)
  obtain ⟨ba, oa, ha, hba, hpc⟩ := HPC.out
  subst ha
  have HPCC := Lib.hid hpc
  have hn63 : n ≤ 9223372036854775807 := by omega
  have hm63 : m ≤ 9223372036854775807 := by omega
  clear hpc HPC hi hj hn hm bp bd
  go_enter Tryd.func25, Tryd.ntmps25
  go_wp2_with (at_builtin; refine wpList_append_own _ rfl _ _ 22 rfl w.heap.size 3 i0 (.int .i64 0) 1 8 Tryd.underlying22 hi0 hz0 hz1 hz2 rfl (by decide) _ _ _ rfl O0.out ⟨ba, oa, none⟩ n ca (p.map (Value.int .i64)) rfl (by rw [List.length_map, HN.out, Nat.mul_one]) HPCC.out (fun u hu => by obtain ⟨y, _, rfl⟩ := List.mem_map.1 hu; rfl) (by unfold maxLen; omega) (by omega) (by simp) ?_; intro v5 w5 hown5 hgrow5 hiff5; clear hiff5; rw [Nat.zero_add, List.nil_append] at hown5; obtain ⟨g5, cap5, rfl, hg5⟩ := own_form7 hown5 (by omega))
  have B5 : Hid (Below w.heap.size w w5) := Lib.hid (HLT.out.grown hgrow5 HLT.out.size (fun q hq => by cases hq; exact Nat.le_refl _))
  have O5 := Lib.hid hown5
  have LG : Hid (w.heap.size ≤ g5 ∧ g5 < w5.heap.size) := Lib.hid (hown5.lt g5 rfl)
  clear hown5 hgrow5 hg5
  have HRD : Hid (rounds7 p d = n + 1 - m) := Lib.hid (by unfold rounds7; rw [← HN.out, ← HM.out])
  go_loopw [6] (fun i wr => ∃ j : Nat, j ≤ n + 1 - m ∧ i = .int .i64 ((n : Int) - (m : Int) - (j : Int)) ∧ wr.ownsRow w.heap.size 3 1 (.slice (some ⟨g5, 0, none⟩) n cap5) n ((restR p d j).map (Value.int .i64)) ∧ w5.grownBy wr (some g5)) (fun i _ => (intOf i + 1).toNat)
  case atStart => exact ⟨0, Nat.zero_le _, by simp, O5.out, World.grownBy.refl _ _⟩
  case round =>
    obtain ⟨j, hjj, rfl, hr, hgr⟩ := hrel
    have HR := Lib.hid hr
    have HGR := Lib.hid hgr
    by_cases hlt : j < n + 1 - m
    · obtain ⟨I, hI⟩ : ∃ I : Nat, I + m + j = n := ⟨n - m - j, by omega⟩
      have hII : (n : Int) - (m : Int) - (j : Int) = (I : Int) := by omega
      rw [hII]
      have HPI : Hid (p.length - d.length - j = I) := Lib.hid (by rw [← HN.out, ← HM.out]; omega)
      have HST : Hid (restR p d (j + 1) = subP7 d I ((restR p d j).getD (I + m - 1) 0) (restR p d j) m) := Lib.hid (by
        show subP7 d (p.length - d.length - j) ((restR p d j).getD (p.length - d.length - j + d.length - 1) 0) (restR p d j) d.length = _
        rw [HPI.out, ← HM.out])
      have HBD2 : Hid (∀ k, k ≤ m → ∀ z, -67108864000 ≤ (subP7 d I ((restR p d j).getD (I + m - 1) 0) (restR p d j) k).getD z 0 ∧ (subP7 d I ((restR p d j).getD (I + m - 1) 0) (restR p d j) k).getD z 0 ≤ 67108864000) := Lib.hid (fun k hk z => by
        have h := sub_bnd HBP.out HBD.out (j := j) (by rw [HRD.out]; omega) (by omega) k (by rw [← HM.out]; exact hk) z
        rw [HPI.out, ← HM.out] at h
        exact h)
      have HSL : Hid (∀ k, (subP7 d I ((restR p d j).getD (I + m - 1) 0) (restR p d j) k).length = n) := Lib.hid (fun k => by rw [subP7_len, restR_len, ← HN.out])
      have HF0 := Lib.hid (HBD2.out 0 (Nat.zero_le _) (I + m - 1))
      have hcf := (hr.cellAt (I + m - 1) (by omega)).trans (map_at7 _ (by rw [restR_len, ← HN.out]; omega))
      have HS0 : Hid (restR p d j = subP7 d I ((restR p d j).getD (I + m - 1) 0) (restR p d j) 0) := Lib.hid rfl
      have HSN : Hid (∀ k, subP7 d I ((restR p d j).getD (I + m - 1) 0) (restR p d j) (k + 1) = (subP7 d I ((restR p d j).getD (I + m - 1) 0) (restR p d j) k).set (I + k) ((subP7 d I ((restR p d j).getD (I + m - 1) 0) (restR p d j) k).getD (I + k) 0 - (restR p d j).getD (I + m - 1) 0 * d.getD k 0)) := Lib.hid (fun k => rfl)
      obtain ⟨Z, HZ⟩ : ∃ Z : Nat → List Int, Hid (∀ k, subP7 d I ((restR p d j).getD (I + m - 1) 0) (restR p d j) k = Z k) := ⟨fun k => subP7 d I ((restR p d j).getD (I + m - 1) 0) (restR p d j) k, Lib.hid (fun k => rfl)⟩
      have HBZ : Hid (∀ k, k ≤ m → ∀ z, -67108864000 ≤ (Z k).getD z 0 ∧ (Z k).getD z 0 ≤ 67108864000) := Lib.hid (fun k hk z => by rw [← HZ.out]; exact HBD2.out k hk z)
      have HSZ : Hid (∀ k, (Z k).length = n) := Lib.hid (fun k => by rw [← HZ.out]; exact HSL.out k)
      have HZ0 : Hid (restR p d j = Z 0) := Lib.hid (HS0.out.trans (HZ.out 0))
      obtain ⟨f, hf⟩ : ∃ f, (restR p d j).getD (I + m - 1) 0 = f := ⟨_, rfl⟩
      have HZN : Hid (∀ k, Z (k + 1) = (Z k).set (I + k) ((Z k).getD (I + k) 0 - f * d.getD k 0)) := Lib.hid (fun k => by rw [← HZ.out, ← HZ.out, ← hf]; exact HSN.out k)
      have HZE : Hid (Z m = restR p d (j + 1)) := Lib.hid (by rw [HST.out, HZ.out])
      obtain ⟨f1, f2⟩ := HF0.out
      have hf1 : -67108864000 ≤ f := by rw [← hf]; simpa [subP7] using f1
      have hf2 : f ≤ 67108864000 := by rw [← hf]; simpa [subP7] using f2
      rw [hf] at hcf
      obtain ⟨y, hy⟩ : ∃ y : Nat, I + m - 1 = y := ⟨_, rfl⟩
      rw [hy] at hcf
      have hyi : (I : Int) + (m : Int) - 1 = (y : Int) := by omega
      have hyn : (y : Int) < (n : Int) := by omega
      have hfr := hr.frozenAt y
      clear HST HBD2 HSL HF0 HS0 HSN HZ f1 f2 hf hr hgr hII
      go_wp2
      go_loopw [8] (fun i wi => ∃ k : Nat, k ≤ m ∧ i = .int .i64 k ∧ wi.ownsRow w.heap.size 3 1 (.slice (some ⟨g5, 0, none⟩) n cap5) n ((Z k).map (Value.int .i64)) ∧ w5.grownBy wi (some g5)) (fun i _ => m - (intOf i).toNat)
      case atStart => exact ⟨0, Nat.zero_le _, rfl, by rw [← HZ0.out]; exact HR.out, HGR.out⟩
      case round =>
        obtain ⟨k, hkk, rfl, hri, hgi⟩ := hrel
        have HRI := Lib.hid hri
        have HGI := Lib.hid hgi
        by_cases hkt : k < m
        · have hkd : k < d.length := by rw [← HM.out]; exact hkt
          rcases HJ.out with h0 | ⟨bb, ob, hb2, hbl2, hc2⟩
          · rw [h0] at hkd; simp at hkd
          · subst hb2
            have HR2 := Lib.hid (keepC B5.out hbl2 (hc2 k hkd))
            have HB2 : Hid (bb < w5.heap.size ∧ bb ≠ g5) := Lib.hid ⟨Nat.lt_of_lt_of_le hbl2 B5.out.size, by have := LG.out; omega⟩
            obtain ⟨z, hz⟩ : ∃ z : Nat, I + k = z := ⟨_, rfl⟩
            have hzi : (I : Int) + (k : Int) = (z : Int) := by omega
            have hzn : z < n := by omega
            have hzN : (z : Int) < (n : Int) := by omega
            have hsum : IntKind.i64.wrap ((I : Int) + (k : Int)) = (z : Int) := by rw [IntKind.wrap_i64]; omega
            have hwz : IntKind.i64.wrap (z : Int) = (z : Int) := by rw [IntKind.wrap_i64]; omega
            obtain ⟨x1, x2⟩ := HBZ.out k hkk z
            obtain ⟨y1, y2⟩ := HBD.out k
            have hnext := HZN.out k
            rw [hz] at hnext
            have hrd := hri.drew
            have hfr2 := hrd.frozenAt z
            have hcell := (hrd.cellAt z (by omega)).trans (map_at7 (Z k) (by rw [HSZ.out]; exact hzn))
            obtain ⟨dk, hdk⟩ : ∃ dk, d.getD k 0 = dk := ⟨_, rfl⟩
            obtain ⟨x, hx⟩ : ∃ x, (Z k).getD z 0 = x := ⟨_, rfl⟩
            rw [hdk] at HR2 y1 y2 hnext
            rw [hx] at hcell x1 x2 hnext
            obtain ⟨m1, m2⟩ := small_mul y1 y2 hf1 hf2
            have hst := (hrd.stored z (.int .i64 (x - f * dk))).1
            rw [map_set7, ← hnext] at hst
            have HST := Lib.hid hst
            have hwm : IntKind.i64.wrap (f * dk) = f * dk := by rw [IntKind.wrap_i64]; omega
            have hwa : IntKind.i64.wrap (x - f * dk) = x - f * dk := by rw [IntKind.wrap_i64]; omega
            have HGD := Lib.hid (grownG_trans hgi (below_grown (Below.refl _ _).drew (some g5)))
            have HGS := Lib.hid (grownG_set HGD.out z (.int .i64 (x - f * dk)))
            have e2 := cell_grown7 HGD.out HB2.out.1 HB2.out.2 HR2.out
            clear hgi hc2 hbl2 hkd hst hri hrd hz hnext hdk hx hcf
            go_wp2
            go_region_with (fail)
            all_goals
              go_wp2
              go_roundw
              case rel => exact ⟨k + 1, by omega, by go_num, by first | exact HST.out | simpa using HST.out, HGS.out⟩
              case measure => simp [intOf]; omega
        · obtain rfl : k = m := by omega
          clear hri hgi
          go_wp2
          go_roundw
          case rel => exact ⟨j + 1, by omega, by first | (congr 1; omega) | (simp; omega), by rw [← HZE.out]; exact HRI.out, HGI.out⟩
          case measure => first | (simp [intOf]; done) | (simp [intOf]; omega)
    · obtain rfl : j = n + 1 - m := by omega
      have HEND : Hid (restR p d (n + 1 - m) = restP p d) := Lib.hid (by unfold restP; rw [HRD.out])
      have hneg : (n : Int) - (m : Int) - ((n + 1 - m : Nat) : Int) < 0 := by omega
      have hneg2 : ¬ (0 : Int) ≤ (n : Int) - (m : Int) - ((n + 1 - m : Nat) : Int) := by omega
      clear hr hgr
      go_wp2
      go_ret
      exact ⟨_, rfl, by rw [← HEND.out]; exact HR.out, B5.out.grown HGR.out B5.out.size (fun q hq => by cases hq; exact LG.out.1)⟩
end Go.Proofs.YticgoodmfjjggaaDoor

namespace Go.Proofs.YticgoodmfjjggaaDoor
open Go.RowKit
set_option maxRecDepth 1000000
set_option maxHeartbeats 4000000 in
theorem sQuot (w : World) (a b : Option Addr) (p d : List Int) (n m ca cb : Nat) (hn : n = p.length) (hm : m = d.length) (hn1 : 1 ≤ n) (hn24 : n ≤ 25) (hm1 : 1 ≤ m) (hmn : m ≤ n) (bp : ∀ m, -1000 ≤ p.getD m 0 ∧ p.getD m 0 ≤ 1000) (bd : ∀ m, -1 ≤ d.getD m 0 ∧ d.getD m 0 ≤ 1) (hi : Ints w a p) (hj : Ints w b d) :
    Calls Tryd.prog 35 #[.slice a n ca, .slice b m cb] w fun e w' => ∃ v, e = .returned v ∧ w'.ownsRow w.heap.size 3 1 v (quotP p d).length ((quotP p d).map (Value.int .i64)) ∧ Below w.heap.size w w' := by
  obtain ⟨i0, hi0, hz0, hz1, hz2⟩ := info_parts intInfo
  have HI := Lib.hid hi
  have HJ := Lib.hid hj
  have HN := Lib.hid hn
  have HM := Lib.hid hm
  have HBP := Lib.hid bp
  have HBD := Lib.hid bd
  have HLT := Lib.hid (Joins.below_alloc1 w (.cells #[] 3))
  have O0 := Lib.hid (show (w.alloc (.cells #[] 3)).ownsRow w.heap.size 3 1 (.slice (some ⟨w.heap.size, 0, none⟩) 0 0) 0 [] from World.ownsRow_lit (base := w.heap.size) (e := 3) (size := 1) w #[] 0 (by simp) (by simp [maxLen]) rfl)
  have HPC : Hid (∃ ba oa, a = some ⟨ba, oa, none⟩ ∧ ba < w.heap.size ∧ ∀ q u, (p.map (Value.int .i64))[q]? = some u → (w.alloc (.cells #[] 3)).cell? ((⟨ba, oa, none⟩ : Addr).add q) = some u) := Lib.hid (by
    rcases hi with h0 | ⟨ba, oa, ha, hbl, hc⟩
    · rw [h0] at hn; simp at hn; omega
    · refine ⟨ba, oa, ha, hbl, fun q u hu => ?_⟩
      have hq : q < p.length := by
        rcases Nat.lt_or_ge q p.length with h | h
        · exact h
        · rw [List.getElem?_map, List.getElem?_eq_none h] at hu; cases hu
      have h1 := keepC (Joins.below_alloc1 w (.cells #[] 3)) (show (⟨ba, oa + q, none⟩ : Addr).block < w.heap.size from hbl) (hc q hq)
      rw [List.getElem?_map, List.getElem?_eq_getElem hq] at hu
      simp only [Option.map_some, Option.some.injEq] at hu
      rw [← hu]
      have hadd : (⟨ba, oa, none⟩ : Addr).add q = ⟨ba, oa + q, none⟩ := by by_cases h0 : q = 0 <;> simp [Addr.add, h0]
      rw [hadd]
      simpa [List.getD, hq] using h1)
  obtain ⟨ba, oa, ha, hba, hpc⟩ := HPC.out
  subst ha
  have HPCC := Lib.hid hpc
  have hn63 : n ≤ 9223372036854775807 := by omega
  have hm63 : m ≤ 9223372036854775807 := by omega
  clear hpc HPC hi hj hn hm bp bd
  go_enter Tryd.func35, Tryd.ntmps35
  obtain ⟨R, hR⟩ : ∃ R : Nat, R + m = n + 1 := ⟨n + 1 - m, by omega⟩
  have hRI : (n : Int) - (m : Int) + 1 = (R : Int) := by omega
  have hR0 : ¬ (R : Int) < 0 := by omega
  have hR25 : R ≤ 25 := by omega
  have hR1 : 1 ≤ R := by omega
  have hmax : max (0 : Int) (R : Int) = (R : Int) := by omega
  go_wp2_with (first
    | (at_make; refine wpList_make_full _ rfl _ _ 22 rfl w.heap.size 3 i0 (.int .i64 0) 1 Tryd.underlying22 hi0 hz0 hz1 .i64 .i64 _ _ R rfl rfl (by omega) (by omega) (by rw [hz2]; omega) (by unfold maxLen; omega) (Nat.le_trans (by simp) B5.out.size) ?_; intro w6 hown6 hgrow6; have B6 := Lib.hid (B5.out.grown hgrow6 B5.out.size (fun q hq => by cases hq)); have Q6 := Lib.hid hown6; have O6 := Lib.hid (O5.out.kept hgrow6 (.inr (by simp [Value.ownBlock]))); have LQ := Lib.hid (hown6.lt _ rfl); clear hown6 hgrow6)
    | (at_builtin; refine wpList_append_own _ rfl _ _ 22 rfl w.heap.size 3 i0 (.int .i64 0) 1 8 Tryd.underlying22 hi0 hz0 hz1 hz2 rfl (by decide) _ _ _ rfl O0.out ⟨ba, oa, none⟩ n ca (p.map (Value.int .i64)) rfl (by rw [List.length_map, HN.out, Nat.mul_one]) HPCC.out (fun u hu => by obtain ⟨y, _, rfl⟩ := List.mem_map.1 hu; rfl) (by unfold maxLen; omega) (by omega) (by simp) ?_; intro v5 w5 hown5 hgrow5 hiff5; clear hiff5; rw [Nat.zero_add, List.nil_append] at hown5; obtain ⟨g5, cap5, rfl, hg5⟩ := own_form7 hown5 (by omega); have B5 := Lib.hid (HLT.out.grown hgrow5 HLT.out.size (fun q hq => by cases hq; exact Nat.le_refl _)); have O5 := Lib.hid hown5; have LG := Lib.hid (hown5.lt g5 rfl); clear hown5 hgrow5 hg5))
  have HNE : Hid (g5 ≠ w5.heap.size) := Lib.hid (by have := LG.out.2; omega)
  obtain ⟨g6, HG6⟩ : ∃ g6, Hid (w5.heap.size = g6) := ⟨_, Lib.hid rfl⟩
  rw [HG6.out] at Q6 HNE LQ
  rw [HG6.out]
  have HLB : Hid (w.heap.size ≤ g5 ∧ w.heap.size ≤ g6) := Lib.hid ⟨LG.out.1, LQ.out.1⟩
  have HQ0 : Hid (w6.ownsRow w.heap.size 3 1 (.slice (some ⟨g6, 0, none⟩) R R) R ((quotR p d 0).map (Value.int .i64))) := Lib.hid (by
    have e : (quotR p d 0).map (Value.int .i64) = (madeCells #[Value.int .i64 0] R).toList := by
      rw [← rowV_zero R]
      show (List.replicate (rounds7 p d) (0 : Int)).map _ = ((List.range R).map _).map _
      have e2 : rounds7 p d = R := by unfold rounds7; rw [← HN.out, ← HM.out]; omega
      rw [e2]
      congr 1
      apply List.ext_getElem <;> simp
    rw [e]
    have := Q6.out
    rw [Nat.mul_one] at this
    exact this)
  have HRD : Hid (rounds7 p d = R) := Lib.hid (by unfold rounds7; rw [← HN.out, ← HM.out]; omega)
  go_loopw [7] (fun i wr => ∃ j : Nat, j ≤ R ∧ i = .int .i64 ((n : Int) - (m : Int) - (j : Int)) ∧ wr.ownsRow w.heap.size 3 1 (.slice (some ⟨g5, 0, none⟩) n cap5) n ((restR p d j).map (Value.int .i64)) ∧ wr.ownsRow w.heap.size 3 1 (.slice (some ⟨g6, 0, none⟩) R R) R ((quotR p d j).map (Value.int .i64)) ∧ Below w.heap.size w wr) (fun i _ => (intOf i + 1).toNat)
  case atStart => exact ⟨0, Nat.zero_le _, by first | (simp; done) | (congr 1; omega) | (simp; omega), O6.out, HQ0.out, B6.out⟩
  case round =>
    obtain ⟨j, hjj, rfl, hr, hq, hgr⟩ := hrel
    have HR := Lib.hid hr
    have HQ := Lib.hid hq
    have HGR := Lib.hid hgr
    by_cases hlt : j < R
    · obtain ⟨I, hI⟩ : ∃ I : Nat, I + m + j = n := ⟨n - m - j, by omega⟩
      have hII : (n : Int) - (m : Int) - (j : Int) = (I : Int) := by omega
      rw [hII]
      have HPI : Hid (p.length - d.length - j = I) := Lib.hid (by rw [← HN.out, ← HM.out]; omega)
      have HQN : Hid ((quotR p d j).set I ((restR p d j).getD (I + m - 1) 0) = quotR p d (j + 1)) := Lib.hid (by
        show _ = (quotR p d j).set (p.length - d.length - j) ((restR p d j).getD (p.length - d.length - j + d.length - 1) 0)
        rw [HPI.out, ← HM.out])
      have HST : Hid (restR p d (j + 1) = subP7 d I ((restR p d j).getD (I + m - 1) 0) (restR p d j) m) := Lib.hid (by
        show subP7 d (p.length - d.length - j) ((restR p d j).getD (p.length - d.length - j + d.length - 1) 0) (restR p d j) d.length = _
        rw [HPI.out, ← HM.out])
      have HBD2 : Hid (∀ k, k ≤ m → ∀ z, -67108864000 ≤ (subP7 d I ((restR p d j).getD (I + m - 1) 0) (restR p d j) k).getD z 0 ∧ (subP7 d I ((restR p d j).getD (I + m - 1) 0) (restR p d j) k).getD z 0 ≤ 67108864000) := Lib.hid (fun k hk z => by
        have h := sub_bnd HBP.out HBD.out (j := j) (by rw [HRD.out]; omega) (by omega) k (by rw [← HM.out]; exact hk) z
        rw [HPI.out, ← HM.out] at h
        exact h)
      have HSL : Hid (∀ k, (subP7 d I ((restR p d j).getD (I + m - 1) 0) (restR p d j) k).length = n) := Lib.hid (fun k => by rw [subP7_len, restR_len, ← HN.out])
      have HF0 := Lib.hid (HBD2.out 0 (Nat.zero_le _) (I + m - 1))
      have hcf := (hr.cellAt (I + m - 1) (by omega)).trans (map_at7 _ (by rw [restR_len, ← HN.out]; omega))
      have HS0 : Hid (restR p d j = subP7 d I ((restR p d j).getD (I + m - 1) 0) (restR p d j) 0) := Lib.hid rfl
      have HSN : Hid (∀ k, subP7 d I ((restR p d j).getD (I + m - 1) 0) (restR p d j) (k + 1) = (subP7 d I ((restR p d j).getD (I + m - 1) 0) (restR p d j) k).set (I + k) ((subP7 d I ((restR p d j).getD (I + m - 1) 0) (restR p d j) k).getD (I + k) 0 - (restR p d j).getD (I + m - 1) 0 * d.getD k 0)) := Lib.hid (fun k => rfl)
      obtain ⟨Z, HZ⟩ : ∃ Z : Nat → List Int, Hid (∀ k, subP7 d I ((restR p d j).getD (I + m - 1) 0) (restR p d j) k = Z k) := ⟨fun k => subP7 d I ((restR p d j).getD (I + m - 1) 0) (restR p d j) k, Lib.hid (fun k => rfl)⟩
      have HBZ : Hid (∀ k, k ≤ m → ∀ z, -67108864000 ≤ (Z k).getD z 0 ∧ (Z k).getD z 0 ≤ 67108864000) := Lib.hid (fun k hk z => by rw [← HZ.out]; exact HBD2.out k hk z)
      have HSZ : Hid (∀ k, (Z k).length = n) := Lib.hid (fun k => by rw [← HZ.out]; exact HSL.out k)
      have HZ0 : Hid (restR p d j = Z 0) := Lib.hid (HS0.out.trans (HZ.out 0))
      obtain ⟨f, hf⟩ : ∃ f, (restR p d j).getD (I + m - 1) 0 = f := ⟨_, rfl⟩
      have HZN : Hid (∀ k, Z (k + 1) = (Z k).set (I + k) ((Z k).getD (I + k) 0 - f * d.getD k 0)) := Lib.hid (fun k => by rw [← HZ.out, ← HZ.out, ← hf]; exact HSN.out k)
      have HZE : Hid (Z m = restR p d (j + 1)) := Lib.hid (by rw [HST.out, HZ.out])
      obtain ⟨f1, f2⟩ := HF0.out
      have hf1 : -67108864000 ≤ f := by rw [← hf]; simpa [subP7] using f1
      have hf2 : f ≤ 67108864000 := by rw [← hf]; simpa [subP7] using f2
      rw [hf] at hcf HQN
      have hqfr := hq.frozenAt I
      have hqc := (hq.cellAt I (by omega)).trans (map_at7 _ (show I < (quotR p d j).length by rw [quotR_len, HRD.out]; omega))
      obtain ⟨qo, hqo⟩ : ∃ qo, (quotR p d j).getD I 0 = qo := ⟨_, rfl⟩
      rw [hqo] at hqc
      have hqs := (hq.stored I (.int .i64 f)).1
      rw [map_set7, HQN.out] at hqs
      have HQS := Lib.hid hqs
      have HRS := Lib.hid (hr.kept (grownG_set (World.grownBy.refl wr (some g6)) I (.int .i64 f)) (.inr (fun e => HNE.out (by simpa [Value.ownBlock] using e))))
      have HBS := Lib.hid (Below.setCell (p := ⟨g6, I, none⟩) hgr HLB.out.2 (.int .i64 f))
      have hIR : (I : Int) < (R : Int) := by omega
      rw [HZ0.out] at HRS
      clear hqs hqo hq
      obtain ⟨y, hy⟩ : ∃ y : Nat, I + m - 1 = y := ⟨_, rfl⟩
      rw [hy] at hcf
      have hyi : (I : Int) + (m : Int) - 1 = (y : Int) := by omega
      have hyn : (y : Int) < (n : Int) := by omega
      have hfr := hr.frozenAt y
      clear HST HBD2 HSL HF0 HS0 HSN HZ f1 f2 hf hr hgr hII
      go_wp2
      go_loopw [9] (fun i wi => ∃ k : Nat, k ≤ m ∧ i = .int .i64 k ∧ wi.ownsRow w.heap.size 3 1 (.slice (some ⟨g5, 0, none⟩) n cap5) n ((Z k).map (Value.int .i64)) ∧ wi.ownsRow w.heap.size 3 1 (.slice (some ⟨g6, 0, none⟩) R R) R ((quotR p d (j + 1)).map (Value.int .i64)) ∧ Below w.heap.size w wi) (fun i _ => m - (intOf i).toNat)
      case atStart => exact ⟨0, Nat.zero_le _, rfl, HRS.out, HQS.out, HBS.out⟩
      case round =>
        obtain ⟨k, hkk, rfl, hri, hqi, hgi⟩ := hrel
        have HRI := Lib.hid hri
        have HQI := Lib.hid hqi
        clear hqi
        have HGI := Lib.hid hgi
        by_cases hkt : k < m
        · have hkd : k < d.length := by rw [← HM.out]; exact hkt
          rcases HJ.out with h0 | ⟨bb, ob, hb2, hbl2, hc2⟩
          · rw [h0] at hkd; simp at hkd
          · subst hb2
            have HR2 := Lib.hid (hc2 k hkd)
            have HB2 : Hid (bb < w.heap.size) := Lib.hid hbl2
            obtain ⟨z, hz⟩ : ∃ z : Nat, I + k = z := ⟨_, rfl⟩
            have hzi : (I : Int) + (k : Int) = (z : Int) := by omega
            have hzn : z < n := by omega
            have hzN : (z : Int) < (n : Int) := by omega
            have hsum : IntKind.i64.wrap ((I : Int) + (k : Int)) = (z : Int) := by rw [IntKind.wrap_i64]; omega
            have hwz : IntKind.i64.wrap (z : Int) = (z : Int) := by rw [IntKind.wrap_i64]; omega
            obtain ⟨x1, x2⟩ := HBZ.out k hkk z
            obtain ⟨y1, y2⟩ := HBD.out k
            have hnext := HZN.out k
            rw [hz] at hnext
            have hrd := hri.drew
            have hfr2 := hrd.frozenAt z
            have hcell := (hrd.cellAt z (by omega)).trans (map_at7 (Z k) (by rw [HSZ.out]; exact hzn))
            obtain ⟨dk, hdk⟩ : ∃ dk, d.getD k 0 = dk := ⟨_, rfl⟩
            obtain ⟨x, hx⟩ : ∃ x, (Z k).getD z 0 = x := ⟨_, rfl⟩
            rw [hdk] at HR2 y1 y2 hnext
            rw [hx] at hcell x1 x2 hnext
            obtain ⟨m1, m2⟩ := small_mul y1 y2 hf1 hf2
            have hst := (hrd.stored z (.int .i64 (x - f * dk))).1
            rw [map_set7, ← hnext] at hst
            have HST := Lib.hid hst
            have hwm : IntKind.i64.wrap (f * dk) = f * dk := by rw [IntKind.wrap_i64]; omega
            have hwa : IntKind.i64.wrap (x - f * dk) = x - f * dk := by rw [IntKind.wrap_i64]; omega
            have HGS := Lib.hid (Below.setCell (p := ⟨g5, z, none⟩) hgi.drew HLB.out.1 (.int .i64 (x - f * dk)))
            have e2 := keepC hgi.drew HB2.out HR2.out
            have HQT := Lib.hid (HQI.out.drew.kept (grownG_set (World.grownBy.refl _ (some g5)) z (.int .i64 (x - f * dk))) (.inr (fun e => HNE.out (by have h7 := e; simp [Value.ownBlock] at h7; omega))))
            clear hgi hc2 hbl2 hkd hst hri hrd hz hnext hdk hx hcf
            go_wp2
            go_region_with (fail)
            all_goals
              go_wp2
              go_roundw
              case rel => exact ⟨k + 1, by omega, by go_num, by first | exact HST.out | simpa using HST.out, by first | exact HQT.out | simpa using HQT.out, by first | exact HGS.out | simpa using HGS.out⟩
              case measure => simp [intOf]; omega
        · obtain rfl : k = m := by omega
          clear hri hgi
          go_wp2
          go_roundw
          case rel => exact ⟨j + 1, by omega, by first | (congr 1; omega) | (simp; omega), by rw [← HZE.out]; exact HRI.out, HQI.out, HGI.out⟩
          case measure => first | (simp [intOf]; done) | (simp [intOf]; omega)
    · obtain rfl : j = R := by omega
      have HEND : Hid (quotR p d j = quotP p d) := Lib.hid (by unfold quotP; rw [HRD.out])
      have HLEN : Hid ((quotP p d).length = j) := Lib.hid (by rw [← HEND.out, quotR_len, HRD.out])
      have hneg : (n : Int) - (m : Int) - (j : Int) < 0 := by omega
      have hneg2 : ¬ (0 : Int) ≤ (n : Int) - (m : Int) - (j : Int) := by omega
      clear hr hgr hq
      go_wp2
      go_ret
      exact ⟨_, rfl, by rw [HLEN.out, ← HEND.out]; exact HQ.out, HGR.out⟩
end Go.Proofs.YticgoodmfjjggaaDoor

namespace Go.Proofs.YticgoodmfjjggaaDoor
open Go.RowKit
set_option maxRecDepth 1000000
theorem cells_zero7 {N j : Nat} (h : j < N) : (madeCells #[Value.int .i64 0] N).toList[j]? = some (.int .i64 0) := by
  rw [toList_madeCells_one]
  simp [h]
theorem set_other7 {l : List Value} {a b : Nat} {v : Value} (h : a ≠ b) : (l.set a v)[b]? = l[b]? := by simp [h]
theorem own_in7 {w : World} {B n cap : Nat} {a : Option Addr} {l : List Int} (h : w.ownsRow B 3 1 (.slice a n cap) n (l.map (Value.int .i64))) : Ints w a l := by
  have hl : n = l.length := by have := h.1; simpa using this.symm
  subst hl
  exact own_ints h
theorem _root_.Go.World.ownsRow.shrink7 {w : World} {B C n : Nat} {v : Value} {xs : List Value} (h : w.ownsRow B 3 1 v n xs) (hc : C ≤ B) : w.ownsRow C 3 1 v n xs := by
  obtain ⟨h1, h2⟩ := h
  refine ⟨h1, ?_⟩
  rcases h2 with h2 | ⟨g, cap, cur, hv, hb, h3⟩
  · exact .inl h2
  · exact .inr ⟨g, cap, cur, hv, Nat.le_trans hc hb, h3⟩
theorem own_form8 {w : World} {B n : Nat} {v : Value} {xs : List Value} (h : w.ownsRow B 3 1 v n xs) (hn : 0 < n) : ∃ a cap, v = .slice a n cap := by
  obtain ⟨g, c, hv, _⟩ := own_form7 h hn
  exact ⟨_, _, hv⟩
theorem xn1_len (n : Nat) : (xn1 n).length = n + 1 := by simp [xn1]
/-- What a call on one number answers. -/
def CycAt (n : Nat) : Prop := ∀ w : World, Calls Tryd.prog 26 #[.int .i64 n] w fun e w' => ∃ v, e = .returned v ∧ w'.ownsRow w.heap.size 3 1 v (cycL n).length ((cycL n).map (Value.int .i64)) ∧ Below w.heap.size w w'
set_option maxHeartbeats 4000000 in
theorem sCyc : ∀ n : Nat, 0 < n → n ≤ 24 → CycAt n := by
  intro n
  induction n using Nat.strongRecOn with
  | _ n ih =>
    intro hn1 hn24 w
    obtain ⟨i0, hi0, hz0, hz1, hz2⟩ := info_parts intInfo
    have HIH : Hid (∀ k : Nat, 0 < k → k < n → CycAt k) := Lib.hid (fun k h1 h2 => ih k h2 h1 (by omega))
    have HCL : Hid (cycL n = cycK cycL n n) := Lib.hid (cycL_eq n)
    have HQA : Hid (∀ k, 0 < k → k < n → n % k = 0 → (∀ m, -1000 ≤ (cycK cycL n k).getD m 0 ∧ (cycK cycL n k).getD m 0 ≤ 1000) ∧ (∀ m, -1 ≤ (cycL k).getD m 0 ∧ (cycL k).getD m 0 ≤ 1) ∧ (cycK cycL n k).length ≤ 25 ∧ (cycL k).length ≤ (cycK cycL n k).length ∧ 1 ≤ (cycL k).length) := Lib.hid (fun k h1 h2 h3 => quo_at hn24 h1 h2 h3)
    have HCN : Hid (∀ k, 0 < k → n % k = 0 → cycK cycL n (k + 1) = quotP (cycK cycL n k) (cycL k)) := Lib.hid (fun k h1 h2 => by simp only [cycK]; rw [if_neg (by omega), if_pos h2])
    have HCO : Hid (∀ k, 0 < k → n % k ≠ 0 → cycK cycL n (k + 1) = cycK cycL n k) := Lib.hid (fun k h1 h2 => by simp only [cycK]; rw [if_neg (by omega), if_neg h2])
    have HC1 : Hid (cycK cycL n 1 = xn1 n) := Lib.hid (by simp [cycK])
    rw [HCL.out]
    clear ih
    obtain ⟨N, hN⟩ : ∃ N : Nat, n + 1 = N := ⟨_, rfl⟩
    have hNI : (n : Int) + 1 = (N : Int) := by omega
    have hN25 : N ≤ 25 := by omega
    go_enter Tryd.func26, Tryd.ntmps26
    go_wp2_with (at_make; refine wpList_make_full _ rfl _ _ 22 rfl w.heap.size 3 i0 (.int .i64 0) 1 Tryd.underlying22 hi0 hz0 hz1 .i64 .i64 _ _ N rfl rfl (by omega) (by omega) (by rw [hz2]; omega) (by unfold maxLen; omega) (Nat.le_refl _) ?_; intro w5 hown hgrow; have B5 := Lib.hid ((Below.refl w.heap.size w).grown hgrow (Nat.le_refl _) (fun q hq => by cases hq)); rw [Nat.mul_one] at hown; have O5 := Lib.hid hown; have L5 := Lib.hid (hown.lt _ rfl); have f0 := hown.frozenAt 0; have d0 := (hown.cellAt 0 (by omega)).trans (cells_zero7 (show 0 < N by omega)); have O6 := Lib.hid (hown.stored 0 (.int .i64 (-1))).1; have f1 := O6.out.frozenAt n; have d1 := (O6.out.cellAt n (by omega)).trans ((set_other7 (show 0 ≠ n by omega)).trans (cells_zero7 (show n < N by omega))); have O7 := Lib.hid (O6.out.stored n (.int .i64 1)).1; have hnN : (n : Int) < (N : Int) := (by omega); have h0N : (0 : Int) < (N : Int) := (by omega); clear hown hgrow)
    have HX : Hid ((((madeCells (Value.int .i64 0).cells N).toList.set 0 (.int .i64 (-1))).set n (.int .i64 1)) = (cycK cycL n 1).map (Value.int .i64)) := Lib.hid (by
      show (((madeCells #[Value.int .i64 0] N).toList.set 0 (.int .i64 (-1))).set n (.int .i64 1)) = _
      rw [HC1.out, toList_madeCells_one]
      unfold xn1
      rw [List.map_set, List.map_set, hN]
      simp)
    have HXL : Hid ((cycK cycL n 1).length = N) := Lib.hid (by rw [HC1.out, xn1_len, hN])
    rw [HX.out] at O7
    have B7 := Lib.hid (Below.setCell (p := ⟨w.heap.size, n, none⟩) (Below.setCell (p := ⟨w.heap.size, 0, none⟩) B5.out (Nat.le_refl _) (.int .i64 (-1))) (Nat.le_refl _) (.int .i64 1))
    go_loopw [3, 4] (fun v i wr => ∃ k : Nat, 1 ≤ k ∧ k ≤ n ∧ i = .int .i64 k ∧ (∃ a c, v = .slice a (cycK cycL n k).length c) ∧ wr.ownsRow w.heap.size 3 1 v (cycK cycL n k).length ((cycK cycL n k).map (Value.int .i64)) ∧ Below w.heap.size w wr) (fun _ i _ => n - (intOf i).toNat)
    case atStart =>
      refine ⟨1, Nat.le_refl _, by omega, rfl, ⟨_, _, by rw [HXL.out]⟩, ?_, ?_⟩
      · rw [HXL.out]
        first | exact O7.out | simpa using O7.out
      · first | exact B7.out | simpa using B7.out
    case round =>
      obtain ⟨k, hk1, hkn, rfl, ⟨a, c, rfl⟩, hr, hb⟩ := hrel
      have HR := Lib.hid hr
      have HB := Lib.hid hb
      clear hr hb
      by_cases hlt : k < n
      · have ht : Int.tmod (n : Int) (k : Int) = ((n % k : Nat) : Int) := by rw [Int.tmod_eq_emod_of_nonneg (by omega)]; simp
        have hk0 : ((k : Int) == 0) = false := by simp; omega
        have hk0' : ¬ (k : Int) = 0 := by omega
        by_cases hd : n % k = 0
        · have hmod : (n : Int) % (k : Int) = 0 := by have : (((n % k : Nat) : Nat) : Int) = 0 := by omega
                                                      simpa using this
          obtain ⟨q1, q2, q3, q4, q5⟩ := HQA.out k (by omega) hlt hd
          have HN2 := Lib.hid (HCN.out k (by omega) hd)
          have HCK := Lib.hid (HIH.out k (by omega) hlt wr)
          have HQ1 := Lib.hid q1
          have HQ2 := Lib.hid q2
          have HQ3 := Lib.hid q3
          have HQ4 := Lib.hid q4
          have HQ5 := Lib.hid q5
          clear q1 q2 q3 q4 q5 hd
          go_wp2_with (first
            | (go_at_call 35; refine (sQuot _ _ _ (cycK cycL n k) (cycL k) _ _ _ _ rfl rfl (Nat.le_trans HQ5.out HQ4.out) HQ3.out HQ5.out HQ4.out HQ1.out HQ2.out (own_in7 HR6.out) (own_in7 R6.out)).mono ?_; rintro e w7 ⟨v7, rfl, ho7, hb7⟩; rw [← HN2.out] at ho7; obtain ⟨a7, c7, rfl⟩ := own_slice ho7; have HR7 := Lib.hid (ho7.shrink7 (HB6.out.size)); have HB7 := Lib.hid (HB6.out.trans (hb7.mono HB6.out.size)); clear ho7 hb7)
            | (go_at_call 26; refine (HCK.out).mono ?_; rintro e w6 ⟨v6, rfl, ho6, hb6⟩; obtain ⟨a6, c6, rfl⟩ := own_slice ho6; have R6 := Lib.hid ho6; have HR6 := Lib.hid (owns_below HR.out hb6); have HB6 := Lib.hid (HB.out.trans (hb6.mono HB.out.size)); clear ho6 hb6))
          go_roundw
          case rel => exact ⟨k + 1, by omega, by omega, by go_num, ⟨_, _, rfl⟩, HR7.out, HB7.out⟩
          case measure => simp [intOf]; omega
        · have hmod : ((n : Int) % (k : Int) == 0) = false := by
            have : ((n % k : Nat) : Int) ≠ 0 := by omega
            simpa using this
          have HN2 := Lib.hid (HCO.out k (by omega) hd)
          go_wp2
          go_roundw
          case rel => exact ⟨k + 1, by omega, by omega, by go_num, by rw [HN2.out]; exact ⟨_, _, rfl⟩, by rw [HN2.out]; exact HR.out, HB.out⟩
          case measure => simp [intOf]; omega
      · obtain rfl : k = n := by omega
        go_wp2
        go_ret
        exact ⟨_, rfl, HR.out, HB.out⟩
end Go.Proofs.YticgoodmfjjggaaDoor

namespace Go.Proofs.YticgoodmfjjggaaDoor
open Go.RowKit
set_option maxRecDepth 1000000
def zeE (l : List Int) (s k : Int) : Bool := ccB l s k && allZ (restP (ccE l s k) (cycL (expN l).toNat))
theorem ccE_yes {l : List Int} {s k : Int} (h : ccB l s k = true) : grpB l = true ∧ (ccE l s k).length = (expN l).toNat ∧ 1 ≤ (expN l).toNat ∧ (expN l).toNat ≤ 24 ∧ ∀ m, -1000 ≤ (ccE l s k).getD m 0 ∧ (ccE l s k).getD m 0 ≤ 1000 := by
  have hg : grpB l = true := by unfold ccB at h; rw [Bool.and_eq_true] at h; exact (isS_true h.1).1
  have he := expN_le hg
  have e : ccE l s k = rowZ (cntZ l k (bitsN s.toNat)) (expN l).toNat := by unfold ccE; rw [if_pos h]
  refine ⟨hg, by rw [e, rowZ_len], by omega, by omega, fun m => ?_⟩
  rw [e]
  by_cases hm : m < (expN l).toNat
  · have : (rowZ (cntZ l k (bitsN s.toNat)) (expN l).toNat).getD m 0 = cntZ l k (bitsN s.toNat) m := by simp [rowZ, List.getD, hm]
    rw [this]
    have h1 := cntZ_bnd l k (bitsN s.toNat) m
    have h2 := bits_le s.toNat
    omega
  · have : (rowZ (cntZ l k (bitsN s.toNat)) (expN l).toNat).getD m 0 = 0 := by
      have hl := rowZ_len (cntZ l k (bitsN s.toNat)) (expN l).toNat
      simp [List.getD, List.getElem?_eq_none (by omega : (rowZ (cntZ l k (bitsN s.toNat)) (expN l).toNat).length ≤ m)]
    rw [this]
    omega
set_option maxHeartbeats 4000000 in
theorem sIsZ (w : World) (a : Option Addr) (l : List Int) (n cap : Nat) (s k : Int) (hn : n = l.length) (hm : n ≤ 9223372036854775807) (hi : Ints w a l) :
    Calls Tryd.prog 14 #[.agg #[.slice a n cap], .int .i64 s, .int .i64 k] w fun e w' => e = .returned (.bool (zeE l s k)) ∧ Below w.heap.size w w' := by
  have HI := Lib.hid (ints_alloc hi (.cells #[.slice a n cap] 27))
  have HN := Lib.hid hn
  have C1 := newC w (.slice a n cap) 27 (n := w.heap.size) rfl
  have HB := Lib.hid (Joins.below_alloc1 w (.cells #[.slice a n cap] 27))
  clear hi hn
  cases hb : ccB l s k with
  | false =>
    have HE : Hid (ccE l s k = []) := Lib.hid (by unfold ccE; rw [if_neg (by simp [hb])])
    rw [show zeE l s k = false by unfold zeE; rw [hb]; rfl]
    clear hb
    go_enter Tryd.func14, Tryd.ntmps14
    go_wp2_with (go_at_call 6; refine (sCC _ _ _ _ _ s k HN.out hm HI.out).mono ?_; rw [HE.out]; rintro e w1 ⟨v1, rfl, ho1, hb1⟩; obtain ⟨a1, c1, rfl⟩ := own_slice ho1; have B1 := Lib.hid hb1; clear ho1 hb1)
    go_ret
    exact ⟨rfl, HB.out.trans (B1.out.mono (by simp))⟩
  | true =>
    obtain ⟨hg, hlen, e1, e24, hbd⟩ := ccE_yes hb
    have hres : zeE l s k = allZ (restP (ccE l s k) (cycL (expN l).toNat)) := by unfold zeE; rw [hb]; rfl
    rw [hres]
    obtain ⟨E, hE⟩ : ∃ E, (expN l).toNat = E := ⟨_, rfl⟩
    rw [hE] at hlen e1 e24 ⊢
    have HL := Lib.hid hlen
    have HBD := Lib.hid hbd
    obtain ⟨c1, c2, c3⟩ := cyc_at (show 0 < E by omega) e24
    have HC1 := Lib.hid c1
    have HC2 := Lib.hid c2
    have HC3 := Lib.hid c3
    have HCY := Lib.hid (sCyc E (by omega) e24)
    obtain ⟨p, HP⟩ : ∃ p, Hid (ccE l s k = p) := ⟨_, Lib.hid rfl⟩
    rw [HP.out] at HL HBD ⊢
    obtain ⟨R, HRR⟩ : ∃ R, Hid (restP p (cycL E) = R) := ⟨_, Lib.hid rfl⟩
    have HRL : Hid (R.length = E) := Lib.hid (by rw [← HRR.out]; unfold restP; rw [restR_len, HL.out])
    rw [HRR.out]
    have HNO : Hid (∀ j, j < E → R.getD j 0 ≠ 0 → allZ R = false) := Lib.hid (fun j hj h => by
      cases hz : allZ R with
      | false => rfl
      | true => exact absurd ((allZ_iff HRL.out).1 hz j hj) h)
    have HAL : Hid ((∀ j, j < E → R.getD j 0 = 0) → allZ R = true) := Lib.hid (fun h => (allZ_iff HRL.out).2 h)
    obtain ⟨zz, hzz⟩ : ∃ z, allZ R = z := ⟨_, rfl⟩
    rw [hzz] at HNO HAL ⊢
    clear hzz
    have hE0 : ((E : Int) == 0) = false := by simp; omega
    have hE63 : E ≤ 9223372036854775807 := by omega
    clear hb hres hg hlen hbd hE c1 c2 c3
    go_enter Tryd.func14, Tryd.ntmps14
    go_wp2_with (first
      | (go_at_call 25; refine (sRest _ _ _ p (cycL E) _ _ _ _ HL.out.symm rfl e1 (by omega) HC3.out (by have := HC2.out; omega) HBD.out HC1.out (own_in7 O2.out) (own_in7 Y2.out)).mono ?_; rw [HRR.out]; rintro e w3 ⟨v3, rfl, ho3, hb3⟩; obtain ⟨a3, c3, rfl⟩ := own_form8 ho3 (by omega); have I3 := Lib.hid (own_in7 ho3); have B3 := Lib.hid (B2.out.trans (hb3.mono B2.out.size)); clear ho3 hb3)
      | (go_at_call 26; refine (HCY.out _).mono ?_; rintro e w2 ⟨v2, rfl, ho2, hb2⟩; obtain ⟨a2, c2, rfl⟩ := own_slice ho2; have Y2 := Lib.hid ho2; have O2 := Lib.hid (owns_below O1.out hb2); have B2 := Lib.hid (B1.out.trans (hb2.mono B1.out.size)); clear ho2 hb2)
      | (go_at_call 6; refine (sCC _ _ _ _ _ s k HN.out hm HI.out).mono ?_; rw [HP.out]; rintro e w1 ⟨v1, rfl, ho1, hb1⟩; rw [HL.out] at ho1; obtain ⟨a1, c1, rfl⟩ := own_form8 ho1 (by omega); have O1 := Lib.hid ho1; have B1 := Lib.hid hb1; clear ho1 hb1))
    go_loopw [9] (fun i wr => ∃ j : Nat, j ≤ E ∧ i = .int .i64 j ∧ Hid (∀ q, q < j → R.getD q 0 = 0) ∧ w3 = wr) (fun i _ => E - (intOf i).toNat)
    case atStart => exact ⟨0, Nat.zero_le _, rfl, Lib.hid (fun q hq => absurd hq (by omega)), rfl⟩
    case round =>
      obtain ⟨j, hj, rfl, HOK, rfl⟩ := hrel
      by_cases hlt : j < E
      · have hjl : j < R.length := by rw [HRL.out]; exact hlt
        rcases I3.out with h0 | ⟨b, off, h1, hbl, hc⟩
        · rw [h0] at hjl; simp at hjl
        · subst h1
          have r1 := hc j hjl
          have HNK := Lib.hid (HNO.out j hlt)
          have HNX : Hid (R.getD j 0 = 0 → ∀ q, q < j + 1 → R.getD q 0 = 0) := Lib.hid (fun h q hq => by
            by_cases hqj : q < j
            · exact HOK.out q hqj
            · obtain rfl : q = j := by omega
              exact h)
          obtain ⟨x, hx⟩ : ∃ x, R.getD j 0 = x := ⟨_, rfl⟩
          rw [hx] at r1 HNK HNX
          clear hc hjl hbl hx
          by_cases h0 : x = 0
          · subst h0
            have HN2 := Lib.hid (HNX.out rfl)
            clear HNK HNX
            go_wp2
            go_roundw
            case rel => exact ⟨j + 1, by omega, by go_num, HN2, by first | trivial | rfl⟩
            case measure => simp [intOf]; omega
          · have hne : (x != 0) = true := by simpa using h0
            have hrr := HNK.out h0
            subst hrr
            go_wp2
            go_ret
            exact ⟨rfl, HB.out.trans (B3.out.mono (by simp))⟩
      · obtain rfl : j = E := by omega
        have hrr := HAL.out HOK.out
        subst hrr
        go_wp2
        go_ret
        exact ⟨rfl, HB.out.trans (B3.out.mono (by simp))⟩
end Go.Proofs.YticgoodmfjjggaaDoor
