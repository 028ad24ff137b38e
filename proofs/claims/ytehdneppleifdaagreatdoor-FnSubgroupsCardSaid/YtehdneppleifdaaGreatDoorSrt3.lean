/- The library's sort of sets: the heap. -/
import Derived.Test.YtehdneppleifdaaGreatDoorMGAI
namespace Go.Proofs.YtehdneppleifdaaGreatDoor
open Go.RowKit
set_option maxRecDepth 1000000
theorem sift_end {hi f r : Nat} (D : Array Nat) (h : hi ≤ 2 * r + 1) : Sort.siftDown ltN hi f r D = D := by
  unfold Sort.siftDown
  rw [dif_pos h]
theorem sift_right {hi f r p c c1 : Nat} (D : Array Nat) (hp : p = f + r) (hc : c = f + (2 * r + 1)) (hc1 : c1 = f + (2 * r + 1) + 1) (h : 2 * r + 2 < hi) (hl : ltN D[c]! D[c1]! = true) :
    Sort.siftDown ltN hi f r D = if ltN D[p]! D[c1]! = true then Sort.siftDown ltN hi f (2 * r + 2) (Sort.swp D p c1) else D := by
  subst hp hc hc1
  have hl' : ltN D[f + (2 * r + 1)]! D[f + (2 * r + 1) + 1]! = true := hl
  rw [show f + (2 * r + 1) + 1 = f + (2 * r + 2) from rfl]
  conv => lhs; unfold Sort.siftDown
  rw [dif_neg (by omega), if_pos (by rw [hl', decide_eq_true (by omega)]; rfl)]
  cases ltN D[f + r]! D[f + (2 * r + 2)]! with
  | true => rw [if_neg (by simp), dif_pos h, if_pos rfl]
  | false => rw [if_pos (by simp), if_neg (by simp)]
theorem sift_left {hi f r p c c1 : Nat} (D : Array Nat) (hp : p = f + r) (hc : c = f + (2 * r + 1)) (hc1 : c1 = f + (2 * r + 1) + 1) (h : 2 * r + 1 < hi) (hl : ¬ (2 * r + 2 < hi ∧ ltN D[c]! D[c1]! = true)) :
    Sort.siftDown ltN hi f r D = if ltN D[p]! D[c]! = true then Sort.siftDown ltN hi f (2 * r + 1) (Sort.swp D p c) else D := by
  subst hp hc hc1
  conv => lhs; unfold Sort.siftDown
  rw [dif_neg (by omega), if_neg (by
    intro h2
    rw [Bool.and_eq_true, decide_eq_true_eq] at h2
    exact hl ⟨by omega, h2.2⟩)]
  cases ltN D[f + r]! D[f + (2 * r + 1)]! with
  | true => rw [if_neg (by simp), if_pos rfl]
  | false => rw [if_pos (by simp), if_neg (by simp)]
theorem sift_size (hi f : Nat) : ∀ (k r : Nat) (D : Array Nat), hi - r ≤ k → (Sort.siftDown ltN hi f r D).size = D.size
  | 0, r, D, hk => by rw [sift_end D (by omega)]
  | k + 1, r, D, hk => by
    by_cases h1 : hi ≤ 2 * r + 1
    · rw [sift_end D h1]
    · by_cases h2 : 2 * r + 2 < hi ∧ ltN D[f + (2 * r + 1)]! D[f + (2 * r + 1) + 1]! = true
      · rw [sift_right D rfl rfl rfl h2.1 h2.2]
        split
        · rw [sift_size hi f k _ _ (by omega), swp_size]
        · rfl
      · rw [sift_left D rfl rfl rfl (by omega) h2]
        split
        · rw [sift_size hi f k _ _ (by omega), swp_size]
        · rfl
/-- A swap of two places of the row, whatever was drawn before. -/
theorem HSR2 {wr : World} {g off : Nat} {pre tl : List Value} {D : Array Nat} (h : SR wr g pre tl D) (q : Nat) {G : Nat → Nat} (hG : ∀ t, G t = D[t]!) {i j : Nat} (hi : i < D.size) (hj : j < D.size) (ho : pre.length = off) :
    SR (((wr.drewN q).setCell ⟨g, off + i, none⟩ (.int .u64 ((G j : Nat) : Int))).setCell ⟨g, off + j, none⟩ (.int .u64 ((G i : Nat) : Int))) g pre tl (Sort.swp D i j) := by
  rw [hG, hG]
  exact (h.drewN q).swp ho hi hj
set_option maxHeartbeats 4000000 in
theorem srtSift (w : World) (g off : Nat) (pre tl : List Value) (d : Array Nat) (n cap lo hi f : Nat) (ho : pre.length = off) (hn : n = d.size) (hb : f + hi ≤ n) (hn24 : n ≤ 16777216) (ha : lo ≤ 16777216) (h : SR w g pre tl d) :
    Calls Tryz.prog 99 #[.slice (some ⟨g, off, none⟩) n cap, .int .i64 lo, .int .i64 hi, .int .i64 f] w fun e w' => e = .returned (.tuple #[]) ∧ SR w' g pre tl (Sort.siftDown ltN hi f lo d) ∧ w.grownBy w' (some g) := by
  have HR := Lib.hid h
  have HN := Lib.hid hn.symm
  have HOF := Lib.hid ho
  clear h hn ho
  go_enter Tryz.func99, Tryz.ntmps99
  go_wp2
  go_loopw [8] (fun i wr => ∃ (r : Nat) (D : Array Nat), i = .int .i64 r ∧ r ≤ 16777216 ∧ SR wr g pre tl D ∧ D.size = n ∧ Hid (Sort.siftDown ltN hi f r D = Sort.siftDown ltN hi f lo d) ∧ w.grownBy wr (some g)) (fun i _ => hi - (intOf i).toNat)
  case atStart => exact ⟨lo, d, rfl, ha, HR.out, HN.out, Lib.hid rfl, World.grownBy.refl _ _⟩
  case round =>
    obtain ⟨r, D, rfl, hr24, hsr, hsz, HO, hgr⟩ := hrel
    have HSR := Lib.hid hsr
    have HSZ := Lib.hid hsz
    have HGR := Lib.hid hgr
    clear hsr hsz hgr
    obtain ⟨R, HRR⟩ : ∃ R, Hid (Sort.siftDown ltN hi f lo d = R) := ⟨_, Lib.hid rfl⟩
    rw [HRR.out] at HO
    by_cases hend : hi ≤ 2 * r + 1
    · have hend' : (hi : Int) ≤ 2 * (r : Int) + 1 := by omega
      have HE : Hid (D = R) := Lib.hid (by rw [← HO.out, sift_end D hend])
      go_wp2
      first | go_ret | go_end0
      exact ⟨rfl, by rw [HRR.out, ← HE.out]; exact HSR.out, HGR.out⟩
    · have hend' : ¬ (hi : Int) ≤ 2 * (r : Int) + 1 := by omega
      obtain ⟨p, hp⟩ : ∃ p, p = f + r := ⟨_, rfl⟩
      obtain ⟨c, hc⟩ : ∃ c, c = f + (2 * r + 1) := ⟨_, rfl⟩
      obtain ⟨c1, hc1⟩ : ∃ c1, c1 = f + (2 * r + 1) + 1 := ⟨_, rfl⟩
      have HP := Lib.hid hp
      have HC := Lib.hid hc
      have HC1 := Lib.hid hc1
      have ep : (f : Int) + (r : Int) = (p : Int) := by omega
      have ec : (f : Int) + (2 * (r : Int) + 1) = (c : Int) := by omega
      have ec1 : (c : Int) + 1 = (c1 : Int) := by omega
      have ec2 : (f : Int) + (2 * (r : Int) + 1 + 1) = (c1 : Int) := by omega
      have ec3 : (f : Int) + (2 * (r : Int) + 2) = (c1 : Int) := by omega
      have wc3 : IntKind.i64.wrap ((f : Int) + (2 * (r : Int) + 1 + 1)) = (c1 : Int) := by rw [IntKind.wrap_i64]; omega
      have wc4 : IntKind.i64.wrap ((f : Int) + (2 * (r : Int) + 1)) = (c : Int) := by rw [IntKind.wrap_i64]; omega
      have hpn : p < n := by omega
      have wp : IntKind.i64.wrap (p : Int) = (p : Int) := by rw [IntKind.wrap_i64]; omega
      have wc : IntKind.i64.wrap (c : Int) = (c : Int) := by rw [IntKind.wrap_i64]; omega
      have wc1 : IntKind.i64.wrap (c1 : Int) = (c1 : Int) := by rw [IntKind.wrap_i64]; omega
      have bp : (p : Int) < (n : Int) := by omega
      have bc : (c : Int) < (n : Int) := by omega
      have hcn : c < n := by omega
      have hc1n : 2 * r + 2 < hi → c1 < n := fun _ => by omega
      clear hp hc hc1
      obtain ⟨G, hG⟩ : ∃ G : Nat → Nat, ∀ t, G t = D[t]! := ⟨fun t => D[t]!, fun _ => rfl⟩
      have hcw : ∀ t, t < n → wr.cell? ⟨g, off + t, none⟩ = some (.int .u64 ((G t : Nat) : Int)) := fun t ht => by rw [hG]; exact HSR.out.fam HOF.out (by rw [HSZ.out]; exact ht)
      have hfw : ∀ t, t < n → wr.frozen? ⟨g, off + t, none⟩ = false := fun t _ => HSR.out.frozen _
      have HG := Lib.hid hG
      clear hG
      by_cases h2 : 2 * r + 2 < hi
      · have h2' : 2 * (r : Int) + 1 + 1 < (hi : Int) := by omega
        have hc1n := hc1n h2
        cases hl : ltN (G c) (G c1) with
        | true =>
          cases hb2 : ltN (G p) (G c1) with
          | false =>
            have HE : Hid (D = R) := Lib.hid (by rw [← HO.out, sift_right D HP.out HC.out HC1.out h2 (by rw [← HG.out, ← HG.out]; exact hl), ← HG.out, ← HG.out, hb2, if_neg (by simp)])
            go_wp2_with fail
            go_quiet (first | (go_at_call 94; refine Calls.quiet_of_same (iLt _ _ _)))
            have hcw2 : ∀ t, t < n → (wr.drewN nq).cell? ⟨g, off + t, none⟩ = some (.int .u64 ((G t : Nat) : Int)) := hcw
            have hfw2 : ∀ t, t < n → (wr.drewN nq).frozen? ⟨g, off + t, none⟩ = false := hfw
            have HS2 : Hid (SR (wr.drewN nq) g pre tl D) := Lib.hid (HSR.out.drewN _)
            have HG2 : Hid (w.grownBy (wr.drewN nq) (some g)) := Lib.hid (grown_drew HGR.out _)
            clear hcw hfw
            generalize wr.drewN nq = w2 at *
            go_wp2
            go_quiet (first | (go_at_call 94; refine Calls.quiet_of_same (iLt _ _ _)))
            go_wp2
            ((try simp only [Exit.inBlock, Exit.then]); refine bodyPost_ret (results_none rfl _ _ _) rfl ?_)
            exact ⟨rfl, by rw [HRR.out, ← HE.out]; exact HS2.out.drewN _, grown_drew HG2.out _⟩
          | true =>
            have HE : Hid (Sort.siftDown ltN hi f (2 * r + 2) (Sort.swp D p c1) = R) := Lib.hid (by rw [← HO.out, sift_right D HP.out HC.out HC1.out h2 (by rw [← HG.out, ← HG.out]; exact hl), ← HG.out, ← HG.out, hb2, if_pos rfl])
            go_wp2_with fail
            go_quiet (first | (go_at_call 94; refine Calls.quiet_of_same (iLt _ _ _)))
            have hcw2 : ∀ t, t < n → (wr.drewN nq).cell? ⟨g, off + t, none⟩ = some (.int .u64 ((G t : Nat) : Int)) := hcw
            have hfw2 : ∀ t, t < n → (wr.drewN nq).frozen? ⟨g, off + t, none⟩ = false := hfw
            have HS2 : Hid (SR (wr.drewN nq) g pre tl D) := Lib.hid (HSR.out.drewN _)
            have HG2 : Hid (w.grownBy (wr.drewN nq) (some g)) := Lib.hid (grown_drew HGR.out _)
            clear hcw hfw
            generalize wr.drewN nq = w2 at *
            go_wp2
            go_quiet (first | (go_at_call 94; refine Calls.quiet_of_same (iLt _ _ _)))
            go_wp2
            go_region
            all_goals go_wp2
            go_roundw
            case rel => exact ⟨2 * r + 2, Sort.swp D p c1, by go_num, by omega, HSR2 HS2.out _ HG.out (by rw [HSZ.out]; omega) (by rw [HSZ.out]; omega) HOF.out, by rw [swp_size]; exact HSZ.out, by rw [HRR.out]; exact HE, grown_swp (grown_drew HG2.out _)⟩
            case measure => first | (simp [intOf]; done) | (simp [intOf]; omega)
        | false =>
          cases hb2 : ltN (G p) (G c) with
          | false =>
            have HE : Hid (D = R) := Lib.hid (by rw [← HO.out, sift_left D HP.out HC.out HC1.out (by omega) (fun h => by rw [← HG.out, ← HG.out, hl] at h; cases h.2), ← HG.out, ← HG.out, hb2, if_neg (by simp)])
            go_wp2_with fail
            go_quiet (first | (go_at_call 94; refine Calls.quiet_of_same (iLt _ _ _)))
            have hcw2 : ∀ t, t < n → (wr.drewN nq).cell? ⟨g, off + t, none⟩ = some (.int .u64 ((G t : Nat) : Int)) := hcw
            have hfw2 : ∀ t, t < n → (wr.drewN nq).frozen? ⟨g, off + t, none⟩ = false := hfw
            have HS2 : Hid (SR (wr.drewN nq) g pre tl D) := Lib.hid (HSR.out.drewN _)
            have HG2 : Hid (w.grownBy (wr.drewN nq) (some g)) := Lib.hid (grown_drew HGR.out _)
            clear hcw hfw
            generalize wr.drewN nq = w2 at *
            go_wp2
            go_quiet (first | (go_at_call 94; refine Calls.quiet_of_same (iLt _ _ _)))
            go_wp2
            ((try simp only [Exit.inBlock, Exit.then]); refine bodyPost_ret (results_none rfl _ _ _) rfl ?_)
            exact ⟨rfl, by rw [HRR.out, ← HE.out]; exact HS2.out.drewN _, grown_drew HG2.out _⟩
          | true =>
            have HE : Hid (Sort.siftDown ltN hi f (2 * r + 1) (Sort.swp D p c) = R) := Lib.hid (by rw [← HO.out, sift_left D HP.out HC.out HC1.out (by omega) (fun h => by rw [← HG.out, ← HG.out, hl] at h; cases h.2), ← HG.out, ← HG.out, hb2, if_pos rfl])
            go_wp2_with fail
            go_quiet (first | (go_at_call 94; refine Calls.quiet_of_same (iLt _ _ _)))
            have hcw2 : ∀ t, t < n → (wr.drewN nq).cell? ⟨g, off + t, none⟩ = some (.int .u64 ((G t : Nat) : Int)) := hcw
            have hfw2 : ∀ t, t < n → (wr.drewN nq).frozen? ⟨g, off + t, none⟩ = false := hfw
            have HS2 : Hid (SR (wr.drewN nq) g pre tl D) := Lib.hid (HSR.out.drewN _)
            have HG2 : Hid (w.grownBy (wr.drewN nq) (some g)) := Lib.hid (grown_drew HGR.out _)
            clear hcw hfw
            generalize wr.drewN nq = w2 at *
            go_wp2
            go_quiet (first | (go_at_call 94; refine Calls.quiet_of_same (iLt _ _ _)))
            go_wp2
            go_region
            all_goals go_wp2
            go_roundw
            case rel => exact ⟨2 * r + 1, Sort.swp D p c, by go_num, by omega, HSR2 HS2.out _ HG.out (by rw [HSZ.out]; omega) (by rw [HSZ.out]; omega) HOF.out, by rw [swp_size]; exact HSZ.out, by rw [HRR.out]; exact HE, grown_swp (grown_drew HG2.out _)⟩
            case measure => first | (simp [intOf]; done) | (simp [intOf]; omega)
      · have h2' : ¬ 2 * (r : Int) + 1 + 1 < (hi : Int) := by omega
        have h3' : decide (2 * (r : Int) + 1 + 1 < (hi : Int)) = false := decide_eq_false h2'
        have h4' : decide (2 * (r : Int) + 2 < (hi : Int)) = false := decide_eq_false (by omega)
        cases hb2 : ltN (G p) (G c) with
        | false =>
          have HE : Hid (D = R) := Lib.hid (by rw [← HO.out, sift_left D HP.out HC.out HC1.out (by omega) (fun h => h2 h.1), ← HG.out, ← HG.out, hb2, if_neg (by simp)])
          go_wp2_with fail
          go_quiet (first | (go_at_call 94; refine Calls.quiet_of_same (iLt _ _ _)))
          have hcw2 : ∀ t, t < n → (wr.drewN nq).cell? ⟨g, off + t, none⟩ = some (.int .u64 ((G t : Nat) : Int)) := hcw
          have hfw2 : ∀ t, t < n → (wr.drewN nq).frozen? ⟨g, off + t, none⟩ = false := hfw
          have HS2 : Hid (SR (wr.drewN nq) g pre tl D) := Lib.hid (HSR.out.drewN _)
          have HG2 : Hid (w.grownBy (wr.drewN nq) (some g)) := Lib.hid (grown_drew HGR.out _)
          clear hcw hfw
          generalize wr.drewN nq = w2 at *
          go_wp2
          go_quiet (first | (go_at_call 94; refine Calls.quiet_of_same (iLt _ _ _)))
          go_wp2
          ((try simp only [Exit.inBlock, Exit.then]); refine bodyPost_ret (results_none rfl _ _ _) rfl ?_)
          exact ⟨rfl, by rw [HRR.out, ← HE.out]; exact HS2.out.drewN _, grown_drew HG2.out _⟩
        | true =>
          have HE : Hid (Sort.siftDown ltN hi f (2 * r + 1) (Sort.swp D p c) = R) := Lib.hid (by rw [← HO.out, sift_left D HP.out HC.out HC1.out (by omega) (fun h => h2 h.1), ← HG.out, ← HG.out, hb2, if_pos rfl])
          go_wp2_with fail
          go_quiet (first | (go_at_call 94; refine Calls.quiet_of_same (iLt _ _ _)))
          have hcw2 : ∀ t, t < n → (wr.drewN nq).cell? ⟨g, off + t, none⟩ = some (.int .u64 ((G t : Nat) : Int)) := hcw
          have hfw2 : ∀ t, t < n → (wr.drewN nq).frozen? ⟨g, off + t, none⟩ = false := hfw
          have HS2 : Hid (SR (wr.drewN nq) g pre tl D) := Lib.hid (HSR.out.drewN _)
          have HG2 : Hid (w.grownBy (wr.drewN nq) (some g)) := Lib.hid (grown_drew HGR.out _)
          clear hcw hfw
          generalize wr.drewN nq = w2 at *
          go_wp2
          go_quiet (first | (go_at_call 94; refine Calls.quiet_of_same (iLt _ _ _)))
          go_wp2
          go_region
          all_goals go_wp2
          go_roundw
          case rel => exact ⟨2 * r + 1, Sort.swp D p c, by go_num, by omega, HSR2 HS2.out _ HG.out (by rw [HSZ.out]; omega) (by rw [HSZ.out]; omega) HOF.out, by rw [swp_size]; exact HSZ.out, by rw [HRR.out]; exact HE, grown_swp (grown_drew HG2.out _)⟩
          case measure => first | (simp [intOf]; done) | (simp [intOf]; omega)

end Go.Proofs.YtehdneppleifdaaGreatDoor
