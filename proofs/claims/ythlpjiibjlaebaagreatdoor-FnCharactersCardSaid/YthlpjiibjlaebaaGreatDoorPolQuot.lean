/- The document's reading of a polynomial's quotient. -/
import Derived.Test.YthlpjiibjlaebaaGreatDoorMGAO
import Derived.Test.YthlpjiibjlaebaaGreatDoorPolRest
namespace Go.Proofs.YthlpjiibjlaebaaGreatDoor
open Go.RowKit
set_option maxRecDepth 1000000
set_option maxHeartbeats 4000000 in
theorem sQuot (w : World) (a b : Option Addr) (p d : List Int) (n m ca cb : Nat) (hn : n = p.length) (hm : m = d.length) (hn1 : 1 ≤ n) (hn24 : n ≤ 25) (hm1 : 1 ≤ m) (hmn : m ≤ n) (bp : ∀ m, -1000 ≤ p.getD m 0 ∧ p.getD m 0 ≤ 1000) (bd : ∀ m, -1 ≤ d.getD m 0 ∧ d.getD m 0 ≤ 1) (hi : Ints w a p) (hj : Ints w b d) :
    Calls Tryz.prog 86 #[.slice a n ca, .slice b m cb] w fun e w' => ∃ v, e = .returned v ∧ w'.ownsRow w.heap.size 3 1 v (quotP p d).length ((quotP p d).map (Value.int .i64)) ∧ Below w.heap.size w w' := by
  obtain ⟨i0, hi0, hz0, hz1, hz2⟩ := info_parts intInfo
  have HI := Lib.hid hi
  have HJ := Lib.hid hj
  have HN := Lib.hid hn
  have HM := Lib.hid hm
  have HBP := Lib.hid bp
  have HBD := Lib.hid bd
  have HLT := Lib.hid (Joins.below_alloc1 w (.cells #[] 3))
  have O0 := Lib.hid (show (w.alloc (.cells #[] 3)).ownsRow w.heap.size 3 1 (.slice (some ⟨w.heap.size, 0, none⟩) 0 0) 0 [] from World.ownsRow_lit (base := w.heap.size) (e := 3) (size := 1) w #[] 0 (by simp) (by simp [maxLen]) rfl)
  have HPC : Hid (∃ ba oa, a = some ⟨ba, oa, none⟩ ∧ ba < w.heap.size ∧ ∀ q u, (p.map (Value.int .i64))[q]? = some u → (w.alloc (.cells #[] 3)).cell? ((⟨ba, oa, none⟩ : Addr).add q) = some u) := Lib.hid (by
    rcases hi with h0 | ⟨ba, oa, ha, hbl, hc⟩
    · rw [h0] at hn; simp at hn; omega
    · refine ⟨ba, oa, ha, hbl, fun q u hu => ?_⟩
      have hq : q < p.length := by
        rcases Nat.lt_or_ge q p.length with h | h
        · exact h
        · rw [List.getElem?_map, List.getElem?_eq_none h] at hu; cases hu
      have h1 := keepC (Joins.below_alloc1 w (.cells #[] 3)) (show (⟨ba, oa + q, none⟩ : Addr).block < w.heap.size from hbl) (hc q hq)
      rw [List.getElem?_map, List.getElem?_eq_getElem hq] at hu
      simp only [Option.map_some, Option.some.injEq] at hu
      rw [← hu]
      have hadd : (⟨ba, oa, none⟩ : Addr).add q = ⟨ba, oa + q, none⟩ := by by_cases h0 : q = 0 <;> simp [Addr.add, h0]
      rw [hadd]
      simpa [List.getD, hq] using h1)
  obtain ⟨ba, oa, ha, hba, hpc⟩ := HPC.out
  subst ha
  have HPCC := Lib.hid hpc
  have hn63 : n ≤ 9223372036854775807 := by omega
  have hm63 : m ≤ 9223372036854775807 := by omega
  clear hpc HPC hi hj hn hm bp bd
  go_enter Tryz.func86, Tryz.ntmps86
  obtain ⟨R, hR⟩ : ∃ R : Nat, R + m = n + 1 := ⟨n + 1 - m, by omega⟩
  have hRI : (n : Int) - (m : Int) + 1 = (R : Int) := by omega
  have hR0 : ¬ (R : Int) < 0 := by omega
  have hR25 : R ≤ 25 := by omega
  have hR1 : 1 ≤ R := by omega
  have hmax : max (0 : Int) (R : Int) = (R : Int) := by omega
  go_wp2_with (first
    | (at_make; refine wpList_make_full _ rfl _ _ 24 rfl w.heap.size 3 i0 (.int .i64 0) 1 Tryz.underlying24 hi0 hz0 hz1 .i64 .i64 _ _ R rfl rfl (by omega) (by omega) (by rw [hz2]; omega) (by unfold maxLen; omega) (Nat.le_trans (by simp) B5.out.size) ?_; intro w6 hown6 hgrow6; have B6 := Lib.hid (B5.out.grown hgrow6 B5.out.size (fun q hq => by cases hq)); have Q6 := Lib.hid hown6; have O6 := Lib.hid (O5.out.kept hgrow6 (.inr (by simp [Value.ownBlock]))); have LQ := Lib.hid (hown6.lt _ rfl); clear hown6 hgrow6)
    | (at_builtin; refine wpList_append_own _ rfl _ _ 24 rfl w.heap.size 3 i0 (.int .i64 0) 1 8 Tryz.underlying24 hi0 hz0 hz1 hz2 rfl (by decide) _ _ _ rfl O0.out ⟨ba, oa, none⟩ n ca (p.map (Value.int .i64)) rfl (by rw [List.length_map, HN.out, Nat.mul_one]) HPCC.out (fun u hu => by obtain ⟨y, _, rfl⟩ := List.mem_map.1 hu; rfl) (by unfold maxLen; omega) (by omega) (by simp) ?_; intro v5 w5 hown5 hgrow5 hiff5; clear hiff5; rw [Nat.zero_add, List.nil_append] at hown5; obtain ⟨g5, cap5, rfl, hg5⟩ := own_form7 hown5 (by omega); have B5 := Lib.hid (HLT.out.grown hgrow5 HLT.out.size (fun q hq => by cases hq; exact Nat.le_refl _)); have O5 := Lib.hid hown5; have LG := Lib.hid (hown5.lt g5 rfl); clear hown5 hgrow5 hg5))
  have HNE : Hid (g5 ≠ w5.heap.size) := Lib.hid (by have := LG.out.2; omega)
  obtain ⟨g6, HG6⟩ : ∃ g6, Hid (w5.heap.size = g6) := ⟨_, Lib.hid rfl⟩
  rw [HG6.out] at Q6 HNE LQ
  rw [HG6.out]
  have HLB : Hid (w.heap.size ≤ g5 ∧ w.heap.size ≤ g6) := Lib.hid ⟨LG.out.1, LQ.out.1⟩
  have HQ0 : Hid (w6.ownsRow w.heap.size 3 1 (.slice (some ⟨g6, 0, none⟩) R R) R ((quotR p d 0).map (Value.int .i64))) := Lib.hid (by
    have e : (quotR p d 0).map (Value.int .i64) = (madeCells #[Value.int .i64 0] R).toList := by
      rw [← rowV_zero R]
      show (List.replicate (rounds7 p d) (0 : Int)).map _ = ((List.range R).map _).map _
      have e2 : rounds7 p d = R := by unfold rounds7; rw [← HN.out, ← HM.out]; omega
      rw [e2]
      congr 1
      apply List.ext_getElem <;> simp
    rw [e]
    have := Q6.out
    rw [Nat.mul_one] at this
    exact this)
  have HRD : Hid (rounds7 p d = R) := Lib.hid (by unfold rounds7; rw [← HN.out, ← HM.out]; omega)
  go_loopw [7] (fun i wr => ∃ j : Nat, j ≤ R ∧ i = .int .i64 ((n : Int) - (m : Int) - (j : Int)) ∧ wr.ownsRow w.heap.size 3 1 (.slice (some ⟨g5, 0, none⟩) n cap5) n ((restR p d j).map (Value.int .i64)) ∧ wr.ownsRow w.heap.size 3 1 (.slice (some ⟨g6, 0, none⟩) R R) R ((quotR p d j).map (Value.int .i64)) ∧ Below w.heap.size w wr) (fun i _ => (intOf i + 1).toNat)
  case atStart => exact ⟨0, Nat.zero_le _, by first | (simp; done) | (congr 1; omega) | (simp; omega), O6.out, HQ0.out, B6.out⟩
  case round =>
    obtain ⟨j, hjj, rfl, hr, hq, hgr⟩ := hrel
    have HR := Lib.hid hr
    have HQ := Lib.hid hq
    have HGR := Lib.hid hgr
    by_cases hlt : j < R
    · obtain ⟨I, hI⟩ : ∃ I : Nat, I + m + j = n := ⟨n - m - j, by omega⟩
      have hII : (n : Int) - (m : Int) - (j : Int) = (I : Int) := by omega
      rw [hII]
      have HPI : Hid (p.length - d.length - j = I) := Lib.hid (by rw [← HN.out, ← HM.out]; omega)
      have HQN : Hid ((quotR p d j).set I ((restR p d j).getD (I + m - 1) 0) = quotR p d (j + 1)) := Lib.hid (by
        show _ = (quotR p d j).set (p.length - d.length - j) ((restR p d j).getD (p.length - d.length - j + d.length - 1) 0)
        rw [HPI.out, ← HM.out])
      have HST : Hid (restR p d (j + 1) = subP7 d I ((restR p d j).getD (I + m - 1) 0) (restR p d j) m) := Lib.hid (by
        show subP7 d (p.length - d.length - j) ((restR p d j).getD (p.length - d.length - j + d.length - 1) 0) (restR p d j) d.length = _
        rw [HPI.out, ← HM.out])
      have HBD2 : Hid (∀ k, k ≤ m → ∀ z, -67108864000 ≤ (subP7 d I ((restR p d j).getD (I + m - 1) 0) (restR p d j) k).getD z 0 ∧ (subP7 d I ((restR p d j).getD (I + m - 1) 0) (restR p d j) k).getD z 0 ≤ 67108864000) := Lib.hid (fun k hk z => by
        have h := sub_bnd HBP.out HBD.out (j := j) (by rw [HRD.out]; omega) (by omega) k (by rw [← HM.out]; exact hk) z
        rw [HPI.out, ← HM.out] at h
        exact h)
      have HSL : Hid (∀ k, (subP7 d I ((restR p d j).getD (I + m - 1) 0) (restR p d j) k).length = n) := Lib.hid (fun k => by rw [subP7_len, restR_len, ← HN.out])
      have HF0 := Lib.hid (HBD2.out 0 (Nat.zero_le _) (I + m - 1))
      have hcf := (hr.cellAt (I + m - 1) (by omega)).trans (map_at7 _ (by rw [restR_len, ← HN.out]; omega))
      have HS0 : Hid (restR p d j = subP7 d I ((restR p d j).getD (I + m - 1) 0) (restR p d j) 0) := Lib.hid rfl
      have HSN : Hid (∀ k, subP7 d I ((restR p d j).getD (I + m - 1) 0) (restR p d j) (k + 1) = (subP7 d I ((restR p d j).getD (I + m - 1) 0) (restR p d j) k).set (I + k) ((subP7 d I ((restR p d j).getD (I + m - 1) 0) (restR p d j) k).getD (I + k) 0 - (restR p d j).getD (I + m - 1) 0 * d.getD k 0)) := Lib.hid (fun k => rfl)
      obtain ⟨Z, HZ⟩ : ∃ Z : Nat → List Int, Hid (∀ k, subP7 d I ((restR p d j).getD (I + m - 1) 0) (restR p d j) k = Z k) := ⟨fun k => subP7 d I ((restR p d j).getD (I + m - 1) 0) (restR p d j) k, Lib.hid (fun k => rfl)⟩
      have HBZ : Hid (∀ k, k ≤ m → ∀ z, -67108864000 ≤ (Z k).getD z 0 ∧ (Z k).getD z 0 ≤ 67108864000) := Lib.hid (fun k hk z => by rw [← HZ.out]; exact HBD2.out k hk z)
      have HSZ : Hid (∀ k, (Z k).length = n) := Lib.hid (fun k => by rw [← HZ.out]; exact HSL.out k)
      have HZ0 : Hid (restR p d j = Z 0) := Lib.hid (HS0.out.trans (HZ.out 0))
      obtain ⟨f, hf⟩ : ∃ f, (restR p d j).getD (I + m - 1) 0 = f := ⟨_, rfl⟩
      have HZN : Hid (∀ k, Z (k + 1) = (Z k).set (I + k) ((Z k).getD (I + k) 0 - f * d.getD k 0)) := Lib.hid (fun k => by rw [← HZ.out, ← HZ.out, ← hf]; exact HSN.out k)
      have HZE : Hid (Z m = restR p d (j + 1)) := Lib.hid (by rw [HST.out, HZ.out])
      obtain ⟨f1, f2⟩ := HF0.out
      have hf1 : -67108864000 ≤ f := by rw [← hf]; simpa [subP7] using f1
      have hf2 : f ≤ 67108864000 := by rw [← hf]; simpa [subP7] using f2
      rw [hf] at hcf HQN
      have hqfr := hq.frozenAt I
      have hqc := (hq.cellAt I (by omega)).trans (map_at7 _ (show I < (quotR p d j).length by rw [quotR_len, HRD.out]; omega))
      obtain ⟨qo, hqo⟩ : ∃ qo, (quotR p d j).getD I 0 = qo := ⟨_, rfl⟩
      rw [hqo] at hqc
      have hqs := (hq.stored I (.int .i64 f)).1
      rw [map_set7, HQN.out] at hqs
      have HQS := Lib.hid hqs
      have HRS := Lib.hid (hr.kept (grownG_set (World.grownBy.refl wr (some g6)) I (.int .i64 f)) (.inr (fun e => HNE.out (by simpa [Value.ownBlock] using e))))
      have HBS := Lib.hid (Below.setCell (p := ⟨g6, I, none⟩) hgr HLB.out.2 (.int .i64 f))
      have hIR : (I : Int) < (R : Int) := by omega
      rw [HZ0.out] at HRS
      clear hqs hqo hq
      obtain ⟨y, hy⟩ : ∃ y : Nat, I + m - 1 = y := ⟨_, rfl⟩
      rw [hy] at hcf
      have hyi : (I : Int) + (m : Int) - 1 = (y : Int) := by omega
      have hyn : (y : Int) < (n : Int) := by omega
      have hfr := hr.frozenAt y
      clear HST HBD2 HSL HF0 HS0 HSN HZ f1 f2 hf hr hgr hII
      go_wp2
      go_loopw [9] (fun i wi => ∃ k : Nat, k ≤ m ∧ i = .int .i64 k ∧ wi.ownsRow w.heap.size 3 1 (.slice (some ⟨g5, 0, none⟩) n cap5) n ((Z k).map (Value.int .i64)) ∧ wi.ownsRow w.heap.size 3 1 (.slice (some ⟨g6, 0, none⟩) R R) R ((quotR p d (j + 1)).map (Value.int .i64)) ∧ Below w.heap.size w wi) (fun i _ => m - (intOf i).toNat)
      case atStart => exact ⟨0, Nat.zero_le _, rfl, HRS.out, HQS.out, HBS.out⟩
      case round =>
        obtain ⟨k, hkk, rfl, hri, hqi, hgi⟩ := hrel
        have HRI := Lib.hid hri
        have HQI := Lib.hid hqi
        clear hqi
        have HGI := Lib.hid hgi
        by_cases hkt : k < m
        · have hkd : k < d.length := by rw [← HM.out]; exact hkt
          rcases HJ.out with h0 | ⟨bb, ob, hb2, hbl2, hc2⟩
          · rw [h0] at hkd; simp at hkd
          · subst hb2
            have HR2 := Lib.hid (hc2 k hkd)
            have HB2 : Hid (bb < w.heap.size) := Lib.hid hbl2
            obtain ⟨z, hz⟩ : ∃ z : Nat, I + k = z := ⟨_, rfl⟩
            have hzi : (I : Int) + (k : Int) = (z : Int) := by omega
            have hzn : z < n := by omega
            have hzN : (z : Int) < (n : Int) := by omega
            have hsum : IntKind.i64.wrap ((I : Int) + (k : Int)) = (z : Int) := by rw [IntKind.wrap_i64]; omega
            have hwz : IntKind.i64.wrap (z : Int) = (z : Int) := by rw [IntKind.wrap_i64]; omega
            obtain ⟨x1, x2⟩ := HBZ.out k hkk z
            obtain ⟨y1, y2⟩ := HBD.out k
            have hnext := HZN.out k
            rw [hz] at hnext
            have hrd := hri.drew
            have hfr2 := hrd.frozenAt z
            have hcell := (hrd.cellAt z (by omega)).trans (map_at7 (Z k) (by rw [HSZ.out]; exact hzn))
            obtain ⟨dk, hdk⟩ : ∃ dk, d.getD k 0 = dk := ⟨_, rfl⟩
            obtain ⟨x, hx⟩ : ∃ x, (Z k).getD z 0 = x := ⟨_, rfl⟩
            rw [hdk] at HR2 y1 y2 hnext
            rw [hx] at hcell x1 x2 hnext
            obtain ⟨m1, m2⟩ := small_mul y1 y2 hf1 hf2
            have hst := (hrd.stored z (.int .i64 (x - f * dk))).1
            rw [map_set7, ← hnext] at hst
            have HST := Lib.hid hst
            have hwm : IntKind.i64.wrap (f * dk) = f * dk := by rw [IntKind.wrap_i64]; omega
            have hwa : IntKind.i64.wrap (x - f * dk) = x - f * dk := by rw [IntKind.wrap_i64]; omega
            have HGS := Lib.hid (Below.setCell (p := ⟨g5, z, none⟩) hgi.drew HLB.out.1 (.int .i64 (x - f * dk)))
            have e2 := keepC hgi.drew HB2.out HR2.out
            have HQT := Lib.hid (HQI.out.drew.kept (grownG_set (World.grownBy.refl _ (some g5)) z (.int .i64 (x - f * dk))) (.inr (fun e => HNE.out (by have h7 := e; simp [Value.ownBlock] at h7; omega))))
            clear hgi hc2 hbl2 hkd hst hri hrd hz hnext hdk hx hcf
            go_wp2
            go_region_with (fail)
            all_goals
              go_wp2
              go_roundw
              case rel => exact ⟨k + 1, by omega, by go_num, by first | exact HST.out | simpa using HST.out, by first | exact HQT.out | simpa using HQT.out, by first | exact HGS.out | simpa using HGS.out⟩
              case measure => simp [intOf]; omega
        · obtain rfl : k = m := by omega
          clear hri hgi
          go_wp2
          go_roundw
          case rel => exact ⟨j + 1, by omega, by first | (congr 1; omega) | (simp; omega), by rw [← HZE.out]; exact HRI.out, HQI.out, HGI.out⟩
          case measure => first | (simp [intOf]; done) | (simp [intOf]; omega)
    · obtain rfl : j = R := by omega
      have HEND : Hid (quotR p d j = quotP p d) := Lib.hid (by unfold quotP; rw [HRD.out])
      have HLEN : Hid ((quotP p d).length = j) := Lib.hid (by rw [← HEND.out, quotR_len, HRD.out])
      have hneg : (n : Int) - (m : Int) - (j : Int) < 0 := by omega
      have hneg2 : ¬ (0 : Int) ≤ (n : Int) - (m : Int) - (j : Int) := by omega
      clear hr hgr hq
      go_wp2
      go_ret
      exact ⟨_, rfl, by rw [HLEN.out, ← HEND.out]; exact HQ.out, HGR.out⟩
end Go.Proofs.YthlpjiibjlaebaaGreatDoor
