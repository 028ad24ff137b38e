/- The library's sort of sets: the partition by equals. -/
import Derived.Test.YtehdneppleifdaaGreatDoorSrt8
namespace Go.Proofs.YtehdneppleifdaaGreatDoor
open Go.RowKit
set_option maxRecDepth 1000000
theorem su_go {p : Nat → Bool} {D : Array Nat} {j i : Nat} (h : i ≤ j) (hp : p D[i]! = true) : Sort.scanUp p D j i = Sort.scanUp p D j (i + 1) := by
  conv => lhs; unfold Sort.scanUp
  rw [if_pos (by rw [hp, decide_eq_true h]; rfl)]
theorem su_no {p : Nat → Bool} {D : Array Nat} {j i : Nat} (h : ¬ (i ≤ j ∧ p D[i]! = true)) : Sort.scanUp p D j i = i := by
  unfold Sort.scanUp
  rw [if_neg (by
    intro h2
    rw [Bool.and_eq_true, decide_eq_true_eq] at h2
    exact h h2)]
theorem sd_go {p : Nat → Bool} {D : Array Nat} {i j : Nat} (h : i ≤ j + 1) (hp : p D[j + 1]! = true) : Sort.scanDown p D i (j + 1) = Sort.scanDown p D i j := by
  show (if decide (i ≤ j + 1) && p D[j + 1]! then Sort.scanDown p D i j else j + 1) = _
  rw [if_pos (by rw [hp, decide_eq_true h]; rfl)]
theorem sd_no {p : Nat → Bool} {D : Array Nat} {i j : Nat} (h : ¬ (i ≤ j ∧ p D[j]! = true)) : Sort.scanDown p D i j = j := by
  cases j with
  | zero => rfl
  | succ j =>
    show (if decide (i ≤ j + 1) && p D[j + 1]! then Sort.scanDown p D i j else j + 1) = _
    rw [if_neg (by
      intro h2
      rw [Bool.and_eq_true, decide_eq_true_eq] at h2
      exact h h2)]
theorem peq_no {a i j i2 j2 : Nat} (D : Array Nat) (h1 : Sort.scanUp (fun x => !ltN D[a]! x) D j i = i2) (h2 : Sort.scanDown (fun x => ltN D[a]! x) D i2 j = j2) (h : j2 < i2) : Sort.partEqLoop ltN a i j D = (i2, D) := by
  conv => lhs; unfold Sort.partEqLoop
  subst h1 h2
  exact if_pos h
theorem peq_go {a i j i2 j2 : Nat} (D : Array Nat) (h1 : Sort.scanUp (fun x => !ltN D[a]! x) D j i = i2) (h2 : Sort.scanDown (fun x => ltN D[a]! x) D i2 j = j2) (h : i2 ≤ j2) (h3 : (j2 - 1) + 1 - (i2 + 1) < j + 1 - i) : Sort.partEqLoop ltN a i j D = Sort.partEqLoop ltN a (i2 + 1) (j2 - 1) (Sort.swp D i2 j2) := by
  conv => lhs; unfold Sort.partEqLoop
  subst h1 h2
  exact (if_neg (by omega)).trans (dif_pos h3)
set_option maxHeartbeats 16000000 in
theorem srtPeq (w : World) (g off : Nat) (pre tl : List Value) (d : Array Nat) (n cap a b p : Nat) (ho : pre.length = off) (hn : n = d.size) (hab : a < b) (hp : p < n) (hb : b ≤ n) (hn24 : n ≤ 16777216) (h : SR w g pre tl d) :
    Calls Tryz.prog 95 #[.slice (some ⟨g, off, none⟩) n cap, .int .i64 a, .int .i64 b, .int .i64 p] w fun e w' => e = .returned (.int .i64 (Sort.partitionEqual ltN d a b p).1) ∧ SR w' g pre tl (Sort.partitionEqual ltN d a b p).2 ∧ w.grownBy w' (some g) := by
  have HR := Lib.hid h
  have HN := Lib.hid hn.symm
  have HOF := Lib.hid ho
  obtain ⟨RES, HRES⟩ : ∃ R, Hid (Sort.partitionEqual ltN d a b p = R) := ⟨_, Lib.hid rfl⟩
  have H0 : Hid (Sort.partEqLoop ltN a (a + 1) (b - 1) (Sort.swp d a p) = RES) := HRES
  rw [HRES.out]
  have hb1 : (b : Int) - 1 = ((b - 1 : Nat) : Int) := by omega
  have han : a < n := by omega
  clear h hn ho HRES
  go_enter Tryz.func95, Tryz.ntmps95
  obtain ⟨G, hG⟩ : ∃ G : Nat → Nat, ∀ t, G t = d[t]! := ⟨fun t => d[t]!, fun _ => rfl⟩
  have hcw : ∀ t, t < n → w.cell? ⟨g, off + t, none⟩ = some (.int .u64 ((G t : Nat) : Int)) := fun t ht => by rw [hG]; exact HR.out.fam HOF.out (by rw [HN.out]; exact ht)
  have hfw : ∀ t, t < n → w.frozen? ⟨g, off + t, none⟩ = false := fun t _ => HR.out.frozen _
  have HG := Lib.hid hG
  clear hG
  go_wp2
  by_cases hap : a = p
  · subst hap
    go_region
    all_goals go_wp2
    clear hcw hfw
    go_loopw [9, 10] (fun s1 s2 wr => ∃ (i j : Nat) (D : Array Nat), s1 = .int .i64 i ∧ s2 = .int .i64 j ∧ a + 1 ≤ i ∧ i ≤ j + 2 ∧ j + 1 ≤ b ∧ SR wr g pre tl D ∧ D.size = n ∧ Hid (Sort.partEqLoop ltN a i j D = RES) ∧ w.grownBy wr (some g)) (fun s1 s2 _ => (intOf s2 + 2 - intOf s1).toNat)
    case atStart => exact ⟨a + 1, b - 1, Sort.swp d a a, by go_num, by rw [← hb1], Nat.le_refl _, by omega, by omega, HSR2 HR.out _ HG.out (by rw [HN.out]; omega) (by rw [HN.out]; omega) HOF.out, by rw [swp_size]; exact HN.out, H0, grown_swp (grown_drew (World.grownBy.refl _ _) _)⟩
    case round =>
      obtain ⟨i, j, D, rfl, rfl, hi1, hij, hjb, hsr, hsz, HO, hgr⟩ := hrel
      have HSR := Lib.hid hsr
      have HSZ := Lib.hid hsz
      have HGR := Lib.hid hgr
      clear hsr hsz hgr HG
      obtain ⟨i2, HI2⟩ : ∃ x, Hid (Sort.scanUp (fun x => !ltN D[a]! x) D j i = x) := ⟨_, Lib.hid rfl⟩
      have HU0 := HI2
      obtain ⟨wa, rfl⟩ : ∃ W, W = wr := ⟨wr, rfl⟩
      go_wp2
      go_loopw [9] (fun s wr => ∃ t : Nat, s = .int .i64 t ∧ i ≤ t ∧ t ≤ j + 2 ∧ SR wr g pre tl D ∧ Hid (Sort.scanUp (fun x => !ltN D[a]! x) D j t = i2) ∧ w.grownBy wr (some g)) (fun s _ => j + 2 - (intOf s).toNat)
      case atStart => exact ⟨i, by first | rfl | go_num, Nat.le_refl _, by omega, HSR.out, HI2, HGR.out⟩
      case round =>
        obtain ⟨t, rfl, ht1, ht2, hsrt, HT, hgrt⟩ := hrel
        have HST := Lib.hid hsrt
        have HGT := Lib.hid hgrt
        clear hsrt hgrt
        obtain ⟨G, hG⟩ : ∃ G : Nat → Nat, ∀ t, G t = D[t]! := ⟨fun t => D[t]!, fun _ => rfl⟩
        have hcw : ∀ t, t < n → wr.cell? ⟨g, off + t, none⟩ = some (.int .u64 ((G t : Nat) : Int)) := fun t ht => by rw [hG]; exact HST.out.fam HOF.out (by rw [HSZ.out]; exact ht)
        have hfw : ∀ t, t < n → wr.frozen? ⟨g, off + t, none⟩ = false := fun t _ => HST.out.frozen _
        have HG := Lib.hid hG
        clear hG
        by_cases htj : t ≤ j
        · have htj' : (t : Int) ≤ (j : Int) := by omega
          cases hl : ltN (G a) (G t) with
          | false =>
            have HT2 : Hid (Sort.scanUp (fun x => !ltN D[a]! x) D j (t + 1) = i2) := Lib.hid (by rw [← HT.out, su_go htj (by simp only [← HG.out, hl]; rfl)])
            go_wp2_with fail
            go_quiet (first | (go_at_call 94; refine Calls.quiet_of_same (iLt _ _ _)))
            go_wp2
            go_roundw
            case rel => exact ⟨t + 1, by go_num, by omega, by omega, HST.out.drewN _, HT2, grown_drew HGT.out _⟩
            case measure => first | (simp [intOf]; done) | (simp [intOf]; omega) | omega
          | true =>
            have HI : Hid (i2 = t) := Lib.hid (by rw [← HT.out]; exact su_no (fun h2 => by have h3 := h2.2; simp only [← HG.out, hl] at h3; cases h3))
            go_wp2_with fail
            go_quiet (first | (go_at_call 94; refine Calls.quiet_of_same (iLt _ _ _)))
            have hcw2 : ∀ t, t < n → (wr.drewN nq).cell? ⟨g, off + t, none⟩ = some (.int .u64 ((G t : Nat) : Int)) := hcw
            have hfw2 : ∀ t, t < n → (wr.drewN nq).frozen? ⟨g, off + t, none⟩ = false := hfw
            have HS2 : Hid (SR (wr.drewN nq) g pre tl D) := Lib.hid (HST.out.drewN _)
            have HG2 : Hid (w.grownBy (wr.drewN nq) (some g)) := Lib.hid (grown_drew HGT.out _)
            clear hcw hfw
            generalize wr.drewN nq = w2 at *
            obtain ⟨j2, HJ2⟩ : ∃ x, Hid (Sort.scanDown (fun x => ltN D[a]! x) D t j = x) := ⟨_, Lib.hid rfl⟩
            have HJ0 := HJ2
            go_wp2
            clear hcw2 hfw2
            go_loopw [10] (fun s wr => ∃ v : Nat, s = .int .i64 v ∧ v ≤ j ∧ t ≤ v + 1 ∧ SR wr g pre tl D ∧ Hid (Sort.scanDown (fun x => ltN D[a]! x) D t v = j2) ∧ w.grownBy wr (some g)) (fun s _ => (intOf s).toNat)
            case atStart => exact ⟨j, by first | rfl | go_num, Nat.le_refl _, by omega, HS2.out, HJ2, HG2.out⟩
            case round =>
              obtain ⟨v, rfl, hv1, hv2, hsrv, HV, hgrv⟩ := hrel
              have HSV := Lib.hid hsrv
              have HGV := Lib.hid hgrv
              clear hsrv hgrv HG
              obtain ⟨G, hG⟩ : ∃ G : Nat → Nat, ∀ t, G t = D[t]! := ⟨fun t => D[t]!, fun _ => rfl⟩
              have hcw : ∀ t, t < n → wr.cell? ⟨g, off + t, none⟩ = some (.int .u64 ((G t : Nat) : Int)) := fun t ht => by rw [hG]; exact HSV.out.fam HOF.out (by rw [HSZ.out]; exact ht)
              have hfw : ∀ t, t < n → wr.frozen? ⟨g, off + t, none⟩ = false := fun t _ => HSV.out.frozen _
              have HG := Lib.hid hG
              clear hG
              by_cases htv : t ≤ v
              · obtain ⟨x, rfl⟩ : ∃ x, v = x + 1 := ⟨v - 1, by omega⟩
                have htv' : (t : Int) ≤ (x : Int) + 1 := by omega
                cases hm : ltN (G a) (G (x + 1)) with
                | true =>
                  have HV2 : Hid (Sort.scanDown (fun x => ltN D[a]! x) D t x = j2) := Lib.hid (by rw [← HV.out, sd_go htv (by simp only [← HG.out, hm])])
                  go_wp2_with fail
                  go_quiet (first | (go_at_call 94; refine Calls.quiet_of_same (iLt _ _ _)))
                  go_wp2
                  go_roundw
                  case rel => exact ⟨x, by go_num, by omega, by omega, HSV.out.drewN _, HV2, grown_drew HGV.out _⟩
                  case measure => first | (simp [intOf]; done) | (simp [intOf]; omega) | omega
                | false =>
                  have HJ : Hid (j2 = x + 1) := Lib.hid (by rw [← HV.out]; exact sd_no (fun h2 => by have h3 := h2.2; simp only [← HG.out, hm] at h3; cases h3))
                  go_wp2_with fail
                  go_quiet (first | (go_at_call 94; refine Calls.quiet_of_same (iLt _ _ _)))
                  have hcw2 : ∀ t, t < n → (wr.drewN nq).cell? ⟨g, off + t, none⟩ = some (.int .u64 ((G t : Nat) : Int)) := hcw
                  have hfw2 : ∀ t, t < n → (wr.drewN nq).frozen? ⟨g, off + t, none⟩ = false := hfw
                  have HS2 : Hid (SR (wr.drewN nq) g pre tl D) := Lib.hid (HSV.out.drewN _)
                  have HG2 : Hid (w.grownBy (wr.drewN nq) (some g)) := Lib.hid (grown_drew HGV.out _)
                  clear hcw hfw
                  generalize wr.drewN nq = w2 at *
                  have HE : Hid (Sort.partEqLoop ltN a (t + 1) x (Sort.swp D t (x + 1)) = RES) := Lib.hid (by
                    have e1 := HI.out; have e2 := HJ.out
                    have h3 := peq_go (i2 := i2) (j2 := j2) D HU0.out (by rw [HI.out]; exact HJ0.out) (by omega) (by omega)
                    rw [← HO.out, h3, HI.out, HJ.out]; rfl)
                  have hvt' : ¬ ((x : Int) + 1 < (t : Int)) := by omega
                  have hxn : x + 1 < n := by omega
                  have htn : t < n := by omega
                  by_cases htx : t = x + 1
                  · subst htx
                    go_wp2
                    go_region
                    all_goals go_wp2
                    go_roundw
                    case rel => exact ⟨x + 1 + 1, x, Sort.swp D (x + 1) (x + 1), by go_num, by go_num, by omega, by omega, by omega, HSR2 HS2.out _ HG.out (by rw [HSZ.out]; omega) (by rw [HSZ.out]; omega) HOF.out, by rw [swp_size]; exact HSZ.out, HE, grown_swp (grown_drew HG2.out _)⟩
                    case measure => first | (simp [intOf]; done) | (simp [intOf]; omega) | omega
                  · have htx1 : ¬ x + 1 = t := fun e => htx e.symm
                    go_wp2
                    go_region
                    all_goals go_wp2
                    go_roundw
                    case rel => exact ⟨t + 1, x, Sort.swp D (t) (x + 1), by go_num, by go_num, by omega, by omega, by omega, HSR2 HS2.out _ HG.out (by rw [HSZ.out]; omega) (by rw [HSZ.out]; omega) HOF.out, by rw [swp_size]; exact HSZ.out, HE, grown_swp (grown_drew HG2.out _)⟩
                    case measure => first | (simp [intOf]; done) | (simp [intOf]; omega) | omega
              · have htv' : ¬ (t : Int) ≤ (v : Int) := by omega
                have hvt' : (v : Int) < (t : Int) := by omega
                have HJ : Hid (j2 = v) := Lib.hid (by rw [← HV.out]; exact sd_no (fun h2 => htv h2.1))
                go_wp2_with fail
                go_quiet (first | (go_at_call 94; refine Calls.quiet_of_same (iLt _ _ _)))
                have hcw2 : ∀ t, t < n → (wr.drewN nq).cell? ⟨g, off + t, none⟩ = some (.int .u64 ((G t : Nat) : Int)) := hcw
                have hfw2 : ∀ t, t < n → (wr.drewN nq).frozen? ⟨g, off + t, none⟩ = false := hfw
                have HS2 : Hid (SR (wr.drewN nq) g pre tl D) := Lib.hid (HSV.out.drewN _)
                have HG2 : Hid (w.grownBy (wr.drewN nq) (some g)) := Lib.hid (grown_drew HGV.out _)
                clear hcw hfw
                generalize wr.drewN nq = w2 at *
                have HE : Hid ((t, D) = RES) := Lib.hid (by rw [← HO.out, peq_no (i2 := i2) (j2 := j2) D HU0.out (by rw [HI.out]; exact HJ0.out) (by have e1 := HI.out; have e2 := HJ.out; omega), HI.out])
                go_wp2
                go_ret
                exact ⟨by rw [← HE.out]; rfl, by rw [← HE.out]; exact HS2.out, HG2.out⟩
        · have htj' : ¬ (t : Int) ≤ (j : Int) := by omega
          have hvt' : (j : Int) < (t : Int) := by omega
          have HI : Hid (i2 = t) := Lib.hid (by rw [← HT.out]; exact su_no (fun h2 => htj h2.1))
          go_wp2_with fail
          go_quiet (first | (go_at_call 94; refine Calls.quiet_of_same (iLt _ _ _)))
          have hcw2 : ∀ t, t < n → (wr.drewN nq).cell? ⟨g, off + t, none⟩ = some (.int .u64 ((G t : Nat) : Int)) := hcw
          have hfw2 : ∀ t, t < n → (wr.drewN nq).frozen? ⟨g, off + t, none⟩ = false := hfw
          have HS2 : Hid (SR (wr.drewN nq) g pre tl D) := Lib.hid (HST.out.drewN _)
          have HG2 : Hid (w.grownBy (wr.drewN nq) (some g)) := Lib.hid (grown_drew HGT.out _)
          clear hcw hfw
          generalize wr.drewN nq = w2 at *
          obtain ⟨j2, HJ⟩ : ∃ x, Hid (x = j) := ⟨_, Lib.hid rfl⟩
          have HJ0 : Hid (Sort.scanDown (fun x => ltN D[a]! x) D t j = j2) := Lib.hid (by rw [HJ.out]; exact sd_no (fun h2 => htj h2.1))
          go_wp2
          refine wp_loop_rounds 1 ?_
          rw [rounds_succ]
          go_wp2_with fail
          go_quiet (first | (go_at_call 94; refine Calls.quiet_of_same (iLt _ _ _)))
          have HS3 : Hid (SR (w2.drewN nq) g pre tl D) := Lib.hid (HS2.out.drewN _)
          have HG3 : Hid (w.grownBy (w2.drewN nq) (some g)) := Lib.hid (grown_drew HG2.out _)
          have hcw3 : ∀ t, t < n → (w2.drewN nq).cell? ⟨g, off + t, none⟩ = some (.int .u64 ((G t : Nat) : Int)) := hcw2
          have hfw3 : ∀ t, t < n → (w2.drewN nq).frozen? ⟨g, off + t, none⟩ = false := hfw2
          clear hcw2 hfw2 HS2 HG2
          generalize w2.drewN nq = w2 at *
          have HS2 := HS3
          have HG2 := HG3
          have hcw2 := hcw3
          have hfw2 := hfw3
          clear hcw3 hfw3
          have HE : Hid ((t, D) = RES) := Lib.hid (by rw [← HO.out, peq_no (i2 := i2) (j2 := j2) D HU0.out (by rw [HI.out]; exact HJ0.out) (by have e1 := HI.out; have e2 := HJ.out; omega), HI.out])
          go_wp2
          go_ret
          exact ⟨by rw [← HE.out]; rfl, by rw [← HE.out]; exact HS2.out, HG2.out⟩
  · have hpa : ¬ p = a := fun e => hap e.symm
    go_region
    all_goals go_wp2
    clear hcw hfw
    go_loopw [9, 10] (fun s1 s2 wr => ∃ (i j : Nat) (D : Array Nat), s1 = .int .i64 i ∧ s2 = .int .i64 j ∧ a + 1 ≤ i ∧ i ≤ j + 2 ∧ j + 1 ≤ b ∧ SR wr g pre tl D ∧ D.size = n ∧ Hid (Sort.partEqLoop ltN a i j D = RES) ∧ w.grownBy wr (some g)) (fun s1 s2 _ => (intOf s2 + 2 - intOf s1).toNat)
    case atStart => exact ⟨a + 1, b - 1, Sort.swp d a p, by go_num, by rw [← hb1], Nat.le_refl _, by omega, by omega, HSR2 HR.out _ HG.out (by rw [HN.out]; omega) (by rw [HN.out]; omega) HOF.out, by rw [swp_size]; exact HN.out, H0, grown_swp (grown_drew (World.grownBy.refl _ _) _)⟩
    case round =>
      obtain ⟨i, j, D, rfl, rfl, hi1, hij, hjb, hsr, hsz, HO, hgr⟩ := hrel
      have HSR := Lib.hid hsr
      have HSZ := Lib.hid hsz
      have HGR := Lib.hid hgr
      clear hsr hsz hgr HG
      obtain ⟨i2, HI2⟩ : ∃ x, Hid (Sort.scanUp (fun x => !ltN D[a]! x) D j i = x) := ⟨_, Lib.hid rfl⟩
      have HU0 := HI2
      obtain ⟨wa, rfl⟩ : ∃ W, W = wr := ⟨wr, rfl⟩
      go_wp2
      go_loopw [9] (fun s wr => ∃ t : Nat, s = .int .i64 t ∧ i ≤ t ∧ t ≤ j + 2 ∧ SR wr g pre tl D ∧ Hid (Sort.scanUp (fun x => !ltN D[a]! x) D j t = i2) ∧ w.grownBy wr (some g)) (fun s _ => j + 2 - (intOf s).toNat)
      case atStart => exact ⟨i, by first | rfl | go_num, Nat.le_refl _, by omega, HSR.out, HI2, HGR.out⟩
      case round =>
        obtain ⟨t, rfl, ht1, ht2, hsrt, HT, hgrt⟩ := hrel
        have HST := Lib.hid hsrt
        have HGT := Lib.hid hgrt
        clear hsrt hgrt
        obtain ⟨G, hG⟩ : ∃ G : Nat → Nat, ∀ t, G t = D[t]! := ⟨fun t => D[t]!, fun _ => rfl⟩
        have hcw : ∀ t, t < n → wr.cell? ⟨g, off + t, none⟩ = some (.int .u64 ((G t : Nat) : Int)) := fun t ht => by rw [hG]; exact HST.out.fam HOF.out (by rw [HSZ.out]; exact ht)
        have hfw : ∀ t, t < n → wr.frozen? ⟨g, off + t, none⟩ = false := fun t _ => HST.out.frozen _
        have HG := Lib.hid hG
        clear hG
        by_cases htj : t ≤ j
        · have htj' : (t : Int) ≤ (j : Int) := by omega
          cases hl : ltN (G a) (G t) with
          | false =>
            have HT2 : Hid (Sort.scanUp (fun x => !ltN D[a]! x) D j (t + 1) = i2) := Lib.hid (by rw [← HT.out, su_go htj (by simp only [← HG.out, hl]; rfl)])
            go_wp2_with fail
            go_quiet (first | (go_at_call 94; refine Calls.quiet_of_same (iLt _ _ _)))
            go_wp2
            go_roundw
            case rel => exact ⟨t + 1, by go_num, by omega, by omega, HST.out.drewN _, HT2, grown_drew HGT.out _⟩
            case measure => first | (simp [intOf]; done) | (simp [intOf]; omega) | omega
          | true =>
            have HI : Hid (i2 = t) := Lib.hid (by rw [← HT.out]; exact su_no (fun h2 => by have h3 := h2.2; simp only [← HG.out, hl] at h3; cases h3))
            go_wp2_with fail
            go_quiet (first | (go_at_call 94; refine Calls.quiet_of_same (iLt _ _ _)))
            have hcw2 : ∀ t, t < n → (wr.drewN nq).cell? ⟨g, off + t, none⟩ = some (.int .u64 ((G t : Nat) : Int)) := hcw
            have hfw2 : ∀ t, t < n → (wr.drewN nq).frozen? ⟨g, off + t, none⟩ = false := hfw
            have HS2 : Hid (SR (wr.drewN nq) g pre tl D) := Lib.hid (HST.out.drewN _)
            have HG2 : Hid (w.grownBy (wr.drewN nq) (some g)) := Lib.hid (grown_drew HGT.out _)
            clear hcw hfw
            generalize wr.drewN nq = w2 at *
            obtain ⟨j2, HJ2⟩ : ∃ x, Hid (Sort.scanDown (fun x => ltN D[a]! x) D t j = x) := ⟨_, Lib.hid rfl⟩
            have HJ0 := HJ2
            go_wp2
            clear hcw2 hfw2
            go_loopw [10] (fun s wr => ∃ v : Nat, s = .int .i64 v ∧ v ≤ j ∧ t ≤ v + 1 ∧ SR wr g pre tl D ∧ Hid (Sort.scanDown (fun x => ltN D[a]! x) D t v = j2) ∧ w.grownBy wr (some g)) (fun s _ => (intOf s).toNat)
            case atStart => exact ⟨j, by first | rfl | go_num, Nat.le_refl _, by omega, HS2.out, HJ2, HG2.out⟩
            case round =>
              obtain ⟨v, rfl, hv1, hv2, hsrv, HV, hgrv⟩ := hrel
              have HSV := Lib.hid hsrv
              have HGV := Lib.hid hgrv
              clear hsrv hgrv HG
              obtain ⟨G, hG⟩ : ∃ G : Nat → Nat, ∀ t, G t = D[t]! := ⟨fun t => D[t]!, fun _ => rfl⟩
              have hcw : ∀ t, t < n → wr.cell? ⟨g, off + t, none⟩ = some (.int .u64 ((G t : Nat) : Int)) := fun t ht => by rw [hG]; exact HSV.out.fam HOF.out (by rw [HSZ.out]; exact ht)
              have hfw : ∀ t, t < n → wr.frozen? ⟨g, off + t, none⟩ = false := fun t _ => HSV.out.frozen _
              have HG := Lib.hid hG
              clear hG
              by_cases htv : t ≤ v
              · obtain ⟨x, rfl⟩ : ∃ x, v = x + 1 := ⟨v - 1, by omega⟩
                have htv' : (t : Int) ≤ (x : Int) + 1 := by omega
                cases hm : ltN (G a) (G (x + 1)) with
                | true =>
                  have HV2 : Hid (Sort.scanDown (fun x => ltN D[a]! x) D t x = j2) := Lib.hid (by rw [← HV.out, sd_go htv (by simp only [← HG.out, hm])])
                  go_wp2_with fail
                  go_quiet (first | (go_at_call 94; refine Calls.quiet_of_same (iLt _ _ _)))
                  go_wp2
                  go_roundw
                  case rel => exact ⟨x, by go_num, by omega, by omega, HSV.out.drewN _, HV2, grown_drew HGV.out _⟩
                  case measure => first | (simp [intOf]; done) | (simp [intOf]; omega) | omega
                | false =>
                  have HJ : Hid (j2 = x + 1) := Lib.hid (by rw [← HV.out]; exact sd_no (fun h2 => by have h3 := h2.2; simp only [← HG.out, hm] at h3; cases h3))
                  go_wp2_with fail
                  go_quiet (first | (go_at_call 94; refine Calls.quiet_of_same (iLt _ _ _)))
                  have hcw2 : ∀ t, t < n → (wr.drewN nq).cell? ⟨g, off + t, none⟩ = some (.int .u64 ((G t : Nat) : Int)) := hcw
                  have hfw2 : ∀ t, t < n → (wr.drewN nq).frozen? ⟨g, off + t, none⟩ = false := hfw
                  have HS2 : Hid (SR (wr.drewN nq) g pre tl D) := Lib.hid (HSV.out.drewN _)
                  have HG2 : Hid (w.grownBy (wr.drewN nq) (some g)) := Lib.hid (grown_drew HGV.out _)
                  clear hcw hfw
                  generalize wr.drewN nq = w2 at *
                  have HE : Hid (Sort.partEqLoop ltN a (t + 1) x (Sort.swp D t (x + 1)) = RES) := Lib.hid (by
                    have e1 := HI.out; have e2 := HJ.out
                    have h3 := peq_go (i2 := i2) (j2 := j2) D HU0.out (by rw [HI.out]; exact HJ0.out) (by omega) (by omega)
                    rw [← HO.out, h3, HI.out, HJ.out]; rfl)
                  have hvt' : ¬ ((x : Int) + 1 < (t : Int)) := by omega
                  have hxn : x + 1 < n := by omega
                  have htn : t < n := by omega
                  by_cases htx : t = x + 1
                  · subst htx
                    go_wp2
                    go_region
                    all_goals go_wp2
                    go_roundw
                    case rel => exact ⟨x + 1 + 1, x, Sort.swp D (x + 1) (x + 1), by go_num, by go_num, by omega, by omega, by omega, HSR2 HS2.out _ HG.out (by rw [HSZ.out]; omega) (by rw [HSZ.out]; omega) HOF.out, by rw [swp_size]; exact HSZ.out, HE, grown_swp (grown_drew HG2.out _)⟩
                    case measure => first | (simp [intOf]; done) | (simp [intOf]; omega) | omega
                  · have htx1 : ¬ x + 1 = t := fun e => htx e.symm
                    go_wp2
                    go_region
                    all_goals go_wp2
                    go_roundw
                    case rel => exact ⟨t + 1, x, Sort.swp D (t) (x + 1), by go_num, by go_num, by omega, by omega, by omega, HSR2 HS2.out _ HG.out (by rw [HSZ.out]; omega) (by rw [HSZ.out]; omega) HOF.out, by rw [swp_size]; exact HSZ.out, HE, grown_swp (grown_drew HG2.out _)⟩
                    case measure => first | (simp [intOf]; done) | (simp [intOf]; omega) | omega
              · have htv' : ¬ (t : Int) ≤ (v : Int) := by omega
                have hvt' : (v : Int) < (t : Int) := by omega
                have HJ : Hid (j2 = v) := Lib.hid (by rw [← HV.out]; exact sd_no (fun h2 => htv h2.1))
                go_wp2_with fail
                go_quiet (first | (go_at_call 94; refine Calls.quiet_of_same (iLt _ _ _)))
                have hcw2 : ∀ t, t < n → (wr.drewN nq).cell? ⟨g, off + t, none⟩ = some (.int .u64 ((G t : Nat) : Int)) := hcw
                have hfw2 : ∀ t, t < n → (wr.drewN nq).frozen? ⟨g, off + t, none⟩ = false := hfw
                have HS2 : Hid (SR (wr.drewN nq) g pre tl D) := Lib.hid (HSV.out.drewN _)
                have HG2 : Hid (w.grownBy (wr.drewN nq) (some g)) := Lib.hid (grown_drew HGV.out _)
                clear hcw hfw
                generalize wr.drewN nq = w2 at *
                have HE : Hid ((t, D) = RES) := Lib.hid (by rw [← HO.out, peq_no (i2 := i2) (j2 := j2) D HU0.out (by rw [HI.out]; exact HJ0.out) (by have e1 := HI.out; have e2 := HJ.out; omega), HI.out])
                go_wp2
                go_ret
                exact ⟨by rw [← HE.out]; rfl, by rw [← HE.out]; exact HS2.out, HG2.out⟩
        · have htj' : ¬ (t : Int) ≤ (j : Int) := by omega
          have hvt' : (j : Int) < (t : Int) := by omega
          have HI : Hid (i2 = t) := Lib.hid (by rw [← HT.out]; exact su_no (fun h2 => htj h2.1))
          go_wp2_with fail
          go_quiet (first | (go_at_call 94; refine Calls.quiet_of_same (iLt _ _ _)))
          have hcw2 : ∀ t, t < n → (wr.drewN nq).cell? ⟨g, off + t, none⟩ = some (.int .u64 ((G t : Nat) : Int)) := hcw
          have hfw2 : ∀ t, t < n → (wr.drewN nq).frozen? ⟨g, off + t, none⟩ = false := hfw
          have HS2 : Hid (SR (wr.drewN nq) g pre tl D) := Lib.hid (HST.out.drewN _)
          have HG2 : Hid (w.grownBy (wr.drewN nq) (some g)) := Lib.hid (grown_drew HGT.out _)
          clear hcw hfw
          generalize wr.drewN nq = w2 at *
          obtain ⟨j2, HJ⟩ : ∃ x, Hid (x = j) := ⟨_, Lib.hid rfl⟩
          have HJ0 : Hid (Sort.scanDown (fun x => ltN D[a]! x) D t j = j2) := Lib.hid (by rw [HJ.out]; exact sd_no (fun h2 => htj h2.1))
          go_wp2
          refine wp_loop_rounds 1 ?_
          rw [rounds_succ]
          go_wp2_with fail
          go_quiet (first | (go_at_call 94; refine Calls.quiet_of_same (iLt _ _ _)))
          have HS3 : Hid (SR (w2.drewN nq) g pre tl D) := Lib.hid (HS2.out.drewN _)
          have HG3 : Hid (w.grownBy (w2.drewN nq) (some g)) := Lib.hid (grown_drew HG2.out _)
          have hcw3 : ∀ t, t < n → (w2.drewN nq).cell? ⟨g, off + t, none⟩ = some (.int .u64 ((G t : Nat) : Int)) := hcw2
          have hfw3 : ∀ t, t < n → (w2.drewN nq).frozen? ⟨g, off + t, none⟩ = false := hfw2
          clear hcw2 hfw2 HS2 HG2
          generalize w2.drewN nq = w2 at *
          have HS2 := HS3
          have HG2 := HG3
          have hcw2 := hcw3
          have hfw2 := hfw3
          clear hcw3 hfw3
          have HE : Hid ((t, D) = RES) := Lib.hid (by rw [← HO.out, peq_no (i2 := i2) (j2 := j2) D HU0.out (by rw [HI.out]; exact HJ0.out) (by have e1 := HI.out; have e2 := HJ.out; omega), HI.out])
          go_wp2
          go_ret
          exact ⟨by rw [← HE.out]; rfl, by rw [← HE.out]; exact HS2.out, HG2.out⟩
end Go.Proofs.YtehdneppleifdaaGreatDoor
