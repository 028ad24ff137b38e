/- The document's reading of a polynomial's remainder. -/
import Derived.Test.YthlpjiibjlaebaaGreatDoorMGAO
import Derived.Test.YthlpjiibjlaebaaGreatDoorMGAN
namespace Go.Proofs.YthlpjiibjlaebaaGreatDoor
open Go.RowKit
set_option maxRecDepth 1000000
/-- A row that is not empty lies in a block of its own, from its start on. -/
theorem own_form7 {w : World} {B n : Nat} {v : Value} {xs : List Value} (h : w.ownsRow B 3 1 v n xs) (hn : 0 < n) : ∃ g cap, v = .slice (some ⟨g, 0, none⟩) n cap ∧ B ≤ g := by
  obtain ⟨h1, h2⟩ := h
  rcases h2 with ⟨h2, h3⟩ | ⟨g, cap, cur, hv, hb, _⟩
  · exfalso; rw [h3] at h1; simp at h1; omega
  · exact ⟨g, cap, hv, hb⟩
theorem map_set7 (l : List Int) (k : Nat) (x : Int) : (l.map (Value.int .i64)).set k (.int .i64 x) = (l.set k x).map (Value.int .i64) := by rw [List.map_set]
theorem map_at7 (l : List Int) {k : Nat} (h : k < l.length) : (l.map (Value.int .i64))[k]? = some (.int .i64 (l.getD k 0)) := by simp [List.getD, h]
set_option maxHeartbeats 4000000 in
theorem sRest (w : World) (a b : Option Addr) (p d : List Int) (n m ca cb : Nat) (hn : n = p.length) (hm : m = d.length) (hn1 : 1 ≤ n) (hn24 : n ≤ 25) (hm1 : 1 ≤ m) (hm25 : m ≤ 25) (bp : ∀ m, -1000 ≤ p.getD m 0 ∧ p.getD m 0 ≤ 1000) (bd : ∀ m, -1 ≤ d.getD m 0 ∧ d.getD m 0 ≤ 1) (hi : Ints w a p) (hj : Ints w b d) :
    Calls Tryz.prog 63 #[.slice a n ca, .slice b m cb] w fun e w' => ∃ v, e = .returned v ∧ w'.ownsRow w.heap.size 3 1 v n ((restP p d).map (Value.int .i64)) ∧ Below w.heap.size w w' := by
  obtain ⟨i0, hi0, hz0, hz1, hz2⟩ := info_parts intInfo
  have HI := Lib.hid hi
  have HJ := Lib.hid hj
  have HN := Lib.hid hn
  have HM := Lib.hid hm
  have HBP := Lib.hid bp
  have HBD := Lib.hid bd
  have HLT := Lib.hid (Joins.below_alloc1 w (.cells #[] 3))
  have O0 := Lib.hid (show (w.alloc (.cells #[] 3)).ownsRow w.heap.size 3 1 (.slice (some ⟨w.heap.size, 0, none⟩) 0 0) 0 [] from World.ownsRow_lit (base := w.heap.size) (e := 3) (size := 1) w #[] 0 (by simp) (by simp [maxLen]) rfl)
  have HPC : Hid (∃ ba oa, a = some ⟨ba, oa, none⟩ ∧ ba < w.heap.size ∧ ∀ q u, (p.map (Value.int .i64))[q]? = some u → (w.alloc (.cells #[] 3)).cell? ((⟨ba, oa, none⟩ : Addr).add q) = some u) := Lib.hid (by
    rcases hi with h0 | ⟨ba, oa, ha, hbl, hc⟩
    · rw [h0] at hn; simp at hn; omega
    · refine ⟨ba, oa, ha, hbl, fun q u hu => ?_⟩
      have hq : q < p.length := by
        rcases Nat.lt_or_ge q p.length with h | h
        · exact h
        · rw [List.getElem?_map, List.getElem?_eq_none h] at hu; cases hu
      have h1 := keepC (Joins.below_alloc1 w (.cells #[] 3)) (show (⟨ba, oa + q, none⟩ : Addr).block < w.heap.size from hbl) (hc q hq)
      rw [List.getElem?_map, List.getElem?_eq_getElem hq] at hu
      simp only [Option.map_some, Option.some.injEq] at hu
      rw [← hu]
      have hadd : (⟨ba, oa, none⟩ : Addr).add q = ⟨ba, oa + q, none⟩ := by by_cases h0 : q = 0 <;> simp [Addr.add, h0]
      rw [hadd]
      simpa [List.getD, hq] using h1)
  obtain ⟨ba, oa, ha, hba, hpc⟩ := HPC.out
  subst ha
  have HPCC := Lib.hid hpc
  have hn63 : n ≤ 9223372036854775807 := by omega
  have hm63 : m ≤ 9223372036854775807 := by omega
  clear hpc HPC hi hj hn hm bp bd
  go_enter Tryz.func63, Tryz.ntmps63
  go_wp2_with (at_builtin; refine wpList_append_own _ rfl _ _ 24 rfl w.heap.size 3 i0 (.int .i64 0) 1 8 Tryz.underlying24 hi0 hz0 hz1 hz2 rfl (by decide) _ _ _ rfl O0.out ⟨ba, oa, none⟩ n ca (p.map (Value.int .i64)) rfl (by rw [List.length_map, HN.out, Nat.mul_one]) HPCC.out (fun u hu => by obtain ⟨y, _, rfl⟩ := List.mem_map.1 hu; rfl) (by unfold maxLen; omega) (by omega) (by simp) ?_; intro v5 w5 hown5 hgrow5 hiff5; clear hiff5; rw [Nat.zero_add, List.nil_append] at hown5; obtain ⟨g5, cap5, rfl, hg5⟩ := own_form7 hown5 (by omega))
  have B5 : Hid (Below w.heap.size w w5) := Lib.hid (HLT.out.grown hgrow5 HLT.out.size (fun q hq => by cases hq; exact Nat.le_refl _))
  have O5 := Lib.hid hown5
  have LG : Hid (w.heap.size ≤ g5 ∧ g5 < w5.heap.size) := Lib.hid (hown5.lt g5 rfl)
  clear hown5 hgrow5 hg5
  have HRD : Hid (rounds7 p d = n + 1 - m) := Lib.hid (by unfold rounds7; rw [← HN.out, ← HM.out])
  go_loopw [6] (fun i wr => ∃ j : Nat, j ≤ n + 1 - m ∧ i = .int .i64 ((n : Int) - (m : Int) - (j : Int)) ∧ wr.ownsRow w.heap.size 3 1 (.slice (some ⟨g5, 0, none⟩) n cap5) n ((restR p d j).map (Value.int .i64)) ∧ w5.grownBy wr (some g5)) (fun i _ => (intOf i + 1).toNat)
  case atStart => exact ⟨0, Nat.zero_le _, by simp, O5.out, World.grownBy.refl _ _⟩
  case round =>
    obtain ⟨j, hjj, rfl, hr, hgr⟩ := hrel
    have HR := Lib.hid hr
    have HGR := Lib.hid hgr
    by_cases hlt : j < n + 1 - m
    · obtain ⟨I, hI⟩ : ∃ I : Nat, I + m + j = n := ⟨n - m - j, by omega⟩
      have hII : (n : Int) - (m : Int) - (j : Int) = (I : Int) := by omega
      rw [hII]
      have HPI : Hid (p.length - d.length - j = I) := Lib.hid (by rw [← HN.out, ← HM.out]; omega)
      have HST : Hid (restR p d (j + 1) = subP7 d I ((restR p d j).getD (I + m - 1) 0) (restR p d j) m) := Lib.hid (by
        show subP7 d (p.length - d.length - j) ((restR p d j).getD (p.length - d.length - j + d.length - 1) 0) (restR p d j) d.length = _
        rw [HPI.out, ← HM.out])
      have HBD2 : Hid (∀ k, k ≤ m → ∀ z, -67108864000 ≤ (subP7 d I ((restR p d j).getD (I + m - 1) 0) (restR p d j) k).getD z 0 ∧ (subP7 d I ((restR p d j).getD (I + m - 1) 0) (restR p d j) k).getD z 0 ≤ 67108864000) := Lib.hid (fun k hk z => by
        have h := sub_bnd HBP.out HBD.out (j := j) (by rw [HRD.out]; omega) (by omega) k (by rw [← HM.out]; exact hk) z
        rw [HPI.out, ← HM.out] at h
        exact h)
      have HSL : Hid (∀ k, (subP7 d I ((restR p d j).getD (I + m - 1) 0) (restR p d j) k).length = n) := Lib.hid (fun k => by rw [subP7_len, restR_len, ← HN.out])
      have HF0 := Lib.hid (HBD2.out 0 (Nat.zero_le _) (I + m - 1))
      have hcf := (hr.cellAt (I + m - 1) (by omega)).trans (map_at7 _ (by rw [restR_len, ← HN.out]; omega))
      have HS0 : Hid (restR p d j = subP7 d I ((restR p d j).getD (I + m - 1) 0) (restR p d j) 0) := Lib.hid rfl
      have HSN : Hid (∀ k, subP7 d I ((restR p d j).getD (I + m - 1) 0) (restR p d j) (k + 1) = (subP7 d I ((restR p d j).getD (I + m - 1) 0) (restR p d j) k).set (I + k) ((subP7 d I ((restR p d j).getD (I + m - 1) 0) (restR p d j) k).getD (I + k) 0 - (restR p d j).getD (I + m - 1) 0 * d.getD k 0)) := Lib.hid (fun k => rfl)
      obtain ⟨Z, HZ⟩ : ∃ Z : Nat → List Int, Hid (∀ k, subP7 d I ((restR p d j).getD (I + m - 1) 0) (restR p d j) k = Z k) := ⟨fun k => subP7 d I ((restR p d j).getD (I + m - 1) 0) (restR p d j) k, Lib.hid (fun k => rfl)⟩
      have HBZ : Hid (∀ k, k ≤ m → ∀ z, -67108864000 ≤ (Z k).getD z 0 ∧ (Z k).getD z 0 ≤ 67108864000) := Lib.hid (fun k hk z => by rw [← HZ.out]; exact HBD2.out k hk z)
      have HSZ : Hid (∀ k, (Z k).length = n) := Lib.hid (fun k => by rw [← HZ.out]; exact HSL.out k)
      have HZ0 : Hid (restR p d j = Z 0) := Lib.hid (HS0.out.trans (HZ.out 0))
      obtain ⟨f, hf⟩ : ∃ f, (restR p d j).getD (I + m - 1) 0 = f := ⟨_, rfl⟩
      have HZN : Hid (∀ k, Z (k + 1) = (Z k).set (I + k) ((Z k).getD (I + k) 0 - f * d.getD k 0)) := Lib.hid (fun k => by rw [← HZ.out, ← HZ.out, ← hf]; exact HSN.out k)
      have HZE : Hid (Z m = restR p d (j + 1)) := Lib.hid (by rw [HST.out, HZ.out])
      obtain ⟨f1, f2⟩ := HF0.out
      have hf1 : -67108864000 ≤ f := by rw [← hf]; simpa [subP7] using f1
      have hf2 : f ≤ 67108864000 := by rw [← hf]; simpa [subP7] using f2
      rw [hf] at hcf
      obtain ⟨y, hy⟩ : ∃ y : Nat, I + m - 1 = y := ⟨_, rfl⟩
      rw [hy] at hcf
      have hyi : (I : Int) + (m : Int) - 1 = (y : Int) := by omega
      have hyn : (y : Int) < (n : Int) := by omega
      have hfr := hr.frozenAt y
      clear HST HBD2 HSL HF0 HS0 HSN HZ f1 f2 hf hr hgr hII
      go_wp2
      go_loopw [8] (fun i wi => ∃ k : Nat, k ≤ m ∧ i = .int .i64 k ∧ wi.ownsRow w.heap.size 3 1 (.slice (some ⟨g5, 0, none⟩) n cap5) n ((Z k).map (Value.int .i64)) ∧ w5.grownBy wi (some g5)) (fun i _ => m - (intOf i).toNat)
      case atStart => exact ⟨0, Nat.zero_le _, rfl, by rw [← HZ0.out]; exact HR.out, HGR.out⟩
      case round =>
        obtain ⟨k, hkk, rfl, hri, hgi⟩ := hrel
        have HRI := Lib.hid hri
        have HGI := Lib.hid hgi
        by_cases hkt : k < m
        · have hkd : k < d.length := by rw [← HM.out]; exact hkt
          rcases HJ.out with h0 | ⟨bb, ob, hb2, hbl2, hc2⟩
          · rw [h0] at hkd; simp at hkd
          · subst hb2
            have HR2 := Lib.hid (keepC B5.out hbl2 (hc2 k hkd))
            have HB2 : Hid (bb < w5.heap.size ∧ bb ≠ g5) := Lib.hid ⟨Nat.lt_of_lt_of_le hbl2 B5.out.size, by have := LG.out; omega⟩
            obtain ⟨z, hz⟩ : ∃ z : Nat, I + k = z := ⟨_, rfl⟩
            have hzi : (I : Int) + (k : Int) = (z : Int) := by omega
            have hzn : z < n := by omega
            have hzN : (z : Int) < (n : Int) := by omega
            have hsum : IntKind.i64.wrap ((I : Int) + (k : Int)) = (z : Int) := by rw [IntKind.wrap_i64]; omega
            have hwz : IntKind.i64.wrap (z : Int) = (z : Int) := by rw [IntKind.wrap_i64]; omega
            obtain ⟨x1, x2⟩ := HBZ.out k hkk z
            obtain ⟨y1, y2⟩ := HBD.out k
            have hnext := HZN.out k
            rw [hz] at hnext
            have hrd := hri.drew
            have hfr2 := hrd.frozenAt z
            have hcell := (hrd.cellAt z (by omega)).trans (map_at7 (Z k) (by rw [HSZ.out]; exact hzn))
            obtain ⟨dk, hdk⟩ : ∃ dk, d.getD k 0 = dk := ⟨_, rfl⟩
            obtain ⟨x, hx⟩ : ∃ x, (Z k).getD z 0 = x := ⟨_, rfl⟩
            rw [hdk] at HR2 y1 y2 hnext
            rw [hx] at hcell x1 x2 hnext
            obtain ⟨m1, m2⟩ := small_mul y1 y2 hf1 hf2
            have hst := (hrd.stored z (.int .i64 (x - f * dk))).1
            rw [map_set7, ← hnext] at hst
            have HST := Lib.hid hst
            have hwm : IntKind.i64.wrap (f * dk) = f * dk := by rw [IntKind.wrap_i64]; omega
            have hwa : IntKind.i64.wrap (x - f * dk) = x - f * dk := by rw [IntKind.wrap_i64]; omega
            have HGD := Lib.hid (grownG_trans hgi (below_grown (Below.refl _ _).drew (some g5)))
            have HGS := Lib.hid (grownG_set HGD.out z (.int .i64 (x - f * dk)))
            have e2 := cell_grown7 HGD.out HB2.out.1 HB2.out.2 HR2.out
            clear hgi hc2 hbl2 hkd hst hri hrd hz hnext hdk hx hcf
            go_wp2
            go_region_with (fail)
            all_goals
              go_wp2
              go_roundw
              case rel => exact ⟨k + 1, by omega, by go_num, by first | exact HST.out | simpa using HST.out, HGS.out⟩
              case measure => simp [intOf]; omega
        · obtain rfl : k = m := by omega
          clear hri hgi
          go_wp2
          go_roundw
          case rel => exact ⟨j + 1, by omega, by first | (congr 1; omega) | (simp; omega), by rw [← HZE.out]; exact HRI.out, HGI.out⟩
          case measure => first | (simp [intOf]; done) | (simp [intOf]; omega)
    · obtain rfl : j = n + 1 - m := by omega
      have HEND : Hid (restR p d (n + 1 - m) = restP p d) := Lib.hid (by unfold restP; rw [HRD.out])
      have hneg : (n : Int) - (m : Int) - ((n + 1 - m : Nat) : Int) < 0 := by omega
      have hneg2 : ¬ (0 : Int) ≤ (n : Int) - (m : Int) - ((n + 1 - m : Nat) : Int) := by omega
      clear hr hgr
      go_wp2
      go_ret
      exact ⟨_, rfl, by rw [← HEND.out]; exact HR.out, B5.out.grown HGR.out B5.out.size (fun q hq => by cases hq; exact LG.out.1)⟩
end Go.Proofs.YthlpjiibjlaebaaGreatDoor
