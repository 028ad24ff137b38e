/- The library's sort of sets: the insertion that gives up. -/
import Derived.Test.YtehdneppleifdaaGreatDoorMGAK
import Derived.Deep.DeepCutAuto
namespace Go.Proofs.YtehdneppleifdaaGreatDoor
open Go.RowKit
set_option maxRecDepth 1000000
theorem scan_go {b i : Nat} {D : Array Nat} (h : i < b) (hl : ltN D[i]! D[i - 1]! = false) : Sort.scanSorted ltN D b i = Sort.scanSorted ltN D b (i + 1) := by
  conv => lhs; unfold Sort.scanSorted
  rw [if_pos (by rw [hl, decide_eq_true h]; rfl)]
theorem scan_no {b i : Nat} {D : Array Nat} (h : ¬ (i < b ∧ ltN D[i]! D[i - 1]! = false)) : Sort.scanSorted ltN D b i = i := by
  unfold Sort.scanSorted
  rw [if_neg (by
    intro h2
    rw [Bool.and_eq_true, decide_eq_true_eq, Bool.not_eq_true'] at h2
    exact h h2)]
theorem sdn (u : Nat) (D : Array Nat) : Sort.shiftDown ltN (u + 1) D = if ltN D[u + 1]! D[u]! = true then Sort.shiftDown ltN u (Sort.swp D (u + 1) u) else D := by
  show (if !ltN D[u + 1]! D[u]! then D else Sort.shiftDown ltN u (Sort.swp D (u + 1) u)) = _
  cases ltN D[u + 1]! D[u]! <;> simp
theorem sup {b j : Nat} (D : Array Nat) (h : j < b) : Sort.shiftUp ltN b j D = if ltN D[j]! D[j - 1]! = true then Sort.shiftUp ltN b (j + 1) (Sort.swp D j (j - 1)) else D := by
  conv => lhs; unfold Sort.shiftUp
  rw [if_pos h]
  cases ltN D[j]! D[j - 1]! <;> simp
theorem sup_no {b j : Nat} (D : Array Nat) (h : ¬ j < b) : Sort.shiftUp ltN b j D = D := by
  unfold Sort.shiftUp
  rw [if_neg h]
theorem sdn_size : ∀ (u : Nat) (D : Array Nat), (Sort.shiftDown ltN u D).size = D.size
  | 0, _ => rfl
  | u + 1, D => by
    rw [sdn]
    split
    · rw [sdn_size u, swp_size]
    · rfl
theorem sup_size (b : Nat) : ∀ (k j : Nat) (D : Array Nat), b - j ≤ k → (Sort.shiftUp ltN b j D).size = D.size
  | 0, j, D, hk => by rw [sup_no D (by omega)]
  | k + 1, j, D, hk => by
    by_cases h : j < b
    · rw [sup D h]
      split
      · rw [sup_size b k _ _ (by omega), swp_size]
      · rfl
    · rw [sup_no D h]
/-- One step of it. -/
theorem pins (a b s i : Nat) (D : Array Nat) : Sort.partialIns ltN a b (s + 1) i D =
    if Sort.scanSorted ltN D b i = b then (D, true) else if b - a < 50 then (D, false) else
      Sort.partialIns ltN a b s (Sort.scanSorted ltN D b i) (if b - Sort.scanSorted ltN D b i ≥ 2 then Sort.shiftUp ltN b (Sort.scanSorted ltN D b i + 1) (if Sort.scanSorted ltN D b i - a ≥ 2 then Sort.shiftDown ltN (Sort.scanSorted ltN D b i - 1) (Sort.swp D (Sort.scanSorted ltN D b i) (Sort.scanSorted ltN D b i - 1)) else Sort.swp D (Sort.scanSorted ltN D b i) (Sort.scanSorted ltN D b i - 1)) else (if Sort.scanSorted ltN D b i - a ≥ 2 then Sort.shiftDown ltN (Sort.scanSorted ltN D b i - 1) (Sort.swp D (Sort.scanSorted ltN D b i) (Sort.scanSorted ltN D b i - 1)) else Sort.swp D (Sort.scanSorted ltN D b i) (Sort.scanSorted ltN D b i - 1))) := rfl
set_option maxHeartbeats 16000000 in
theorem srtPar (w : World) (g off : Nat) (pre tl : List Value) (d : Array Nat) (n cap a b : Nat) (ho : pre.length = off) (hn : n = d.size) (hab : a + 12 < b) (hb : b ≤ n) (hn24 : n ≤ 16777216) (h : SR w g pre tl d) :
    Calls Tryz.prog 93 #[.slice (some ⟨g, off, none⟩) n cap, .int .i64 a, .int .i64 b] w fun e w' => e = .returned (.bool (Sort.partialInsertionSort ltN d a b).2) ∧ SR w' g pre tl (Sort.partialInsertionSort ltN d a b).1 ∧ w.grownBy w' (some g) := by
  have HR := Lib.hid h
  have HN := Lib.hid hn.symm
  have HOF := Lib.hid ho
  obtain ⟨RES, HRES⟩ : ∃ R, Hid (Sort.partialInsertionSort ltN d a b = R) := ⟨_, Lib.hid rfl⟩
  have H0 : Hid (Sort.partialIns ltN a b 5 (a + 1) d = RES) := HRES
  rw [HRES.out]
  clear h hn ho HRES
  go_enter Tryz.func93, Tryz.ntmps93
  go_wp2
  go_loopw [7, 8] (fun i j wr => ∃ (k s : Nat) (D : Array Nat), i = .int .i64 k ∧ j = .int .i64 (5 - (s : Int)) ∧ s ≤ 5 ∧ a + 1 ≤ k ∧ k ≤ b ∧ SR wr g pre tl D ∧ D.size = n ∧ Hid (Sort.partialIns ltN a b s k D = RES) ∧ w.grownBy wr (some g)) (fun _ j _ => (5 - intOf j).toNat)
  case atStart => exact ⟨a + 1, 5, d, by go_num, by go_num, by omega, Nat.le_refl _, by omega, HR.out, HN.out, H0, World.grownBy.refl _ _⟩
  case round =>
    obtain ⟨k, s, D, rfl, rfl, hs5, hk1, hkb, hsr, hsz, HO, hgr⟩ := hrel
    have HSR := Lib.hid hsr
    have HSZ := Lib.hid hsz
    have HGR := Lib.hid hgr
    clear hsr hsz hgr
    cases s with
    | zero =>
      have HE : Hid ((D, false) = RES) := HO
      go_wp2
      go_ret
      exact ⟨by rw [← HE.out]; rfl, by rw [← HE.out]; exact HSR.out, HGR.out⟩
    | succ s =>
      obtain ⟨m, HM⟩ : ∃ m, Hid (Sort.scanSorted ltN D b k = m) := ⟨_, Lib.hid rfl⟩
      have hs4 : (5 : Int) - ((s + 1 : Nat) : Int) < 5 := by omega
      have hs5' : 5 - (s : Int) = 5 - ((s + 1 : Nat) : Int) + 1 := by omega
      obtain ⟨wa, rfl⟩ : ∃ W, W = wr := ⟨wr, rfl⟩
      go_wp2
      go_loopw [7] (fun i wr => ∃ t : Nat, i = .int .i64 t ∧ a + 1 ≤ t ∧ t ≤ b ∧ SR wr g pre tl D ∧ Hid (Sort.scanSorted ltN D b t = m) ∧ w.grownBy wr (some g)) (fun i _ => b - (intOf i).toNat)
      case atStart => exact ⟨k, rfl, hk1, hkb, HSR.out, HM, HGR.out⟩
      case round =>
        obtain ⟨t, rfl, ht1, htb, hsr, HC, hgr⟩ := hrel
        have HSRb := Lib.hid hsr
        have HGRb := Lib.hid hgr
        clear hsr hgr
        obtain ⟨u, rfl⟩ : ∃ u, t = u + 1 := ⟨t - 1, by omega⟩
        obtain ⟨G, hG⟩ : ∃ G : Nat → Nat, ∀ t, G t = D[t]! := ⟨fun t => D[t]!, fun _ => rfl⟩
        have hcw : ∀ t, t < n → wr.cell? ⟨g, off + t, none⟩ = some (.int .u64 ((G t : Nat) : Int)) := fun t ht => by rw [hG]; exact HSRb.out.fam HOF.out (by rw [HSZ.out]; exact ht)
        have hfw : ∀ t, t < n → wr.frozen? ⟨g, off + t, none⟩ = false := fun t _ => HSRb.out.frozen _
        have HG := Lib.hid hG
        clear hG
        by_cases htb2 : u + 1 < b
        · have htb' : (u : Int) + 1 < (b : Int) := by omega
          cases hl : ltN (G (u + 1)) (G u) with
          | false =>
            have HC2 : Hid (Sort.scanSorted ltN D b (u + 1 + 1) = m) := Lib.hid (by rw [← HC.out, scan_go htb2 (by rw [← HG.out, show u + 1 - 1 = u from rfl, ← HG.out]; exact hl)])
            go_wp2_with fail
            go_quiet (first | (go_at_call 94; refine Calls.quiet_of_same (iLt _ _ _)))
            go_wp2
            go_roundw
            case rel => exact ⟨u + 1 + 1, by go_num, by omega, by omega, HSRb.out.drewN _, HC2, grown_drew HGRb.out _⟩
            case measure => first | (simp [intOf]; done) | (simp [intOf]; omega) | omega
          | true =>
            have HM2 : Hid (m = u + 1) := Lib.hid (by rw [← HC.out, scan_no (fun h2 => by rw [← HG.out, show u + 1 - 1 = u from rfl, ← HG.out, hl] at h2; cases h2.2)])
            have hne : ((u : Int) + 1 == (b : Int)) = false := by
              have : (u : Int) + 1 ≠ (b : Int) := by omega
              simpa using this
            have hne2 : ¬ (u : Int) + 1 = (b : Int) := by omega
            go_wp2_with fail
            go_quiet (first | (go_at_call 94; refine Calls.quiet_of_same (iLt _ _ _)))
            have hcw2 : ∀ t, t < n → (wr.drewN nq).cell? ⟨g, off + t, none⟩ = some (.int .u64 ((G t : Nat) : Int)) := hcw
            have hfw2 : ∀ t, t < n → (wr.drewN nq).frozen? ⟨g, off + t, none⟩ = false := hfw
            have HS2 : Hid (SR (wr.drewN nq) g pre tl D) := Lib.hid (HSRb.out.drewN _)
            have HG2 : Hid (w.grownBy (wr.drewN nq) (some g)) := Lib.hid (grown_drew HGRb.out _)
            clear hcw hfw
            generalize wr.drewN nq = w2 at *
            by_cases h50 : b - a < 50
            · have h50' : (b : Int) - (a : Int) < 50 := by omega
              have HE : Hid ((D, false) = RES) := Lib.hid (by rw [← HO.out, pins, HM.out, HM2.out, if_neg (by omega), if_pos h50])
              go_wp2
              go_ret
              exact ⟨by rw [← HE.out]; rfl, by rw [← HE.out]; exact HS2.out, HG2.out⟩
            · have h50' : ¬ (b : Int) - (a : Int) < 50 := by omega
              have hun : u + 1 < n := by omega
              obtain ⟨D1, hD1⟩ : ∃ D1, Sort.swp D (u + 1) u = D1 := ⟨_, rfl⟩
              have HZ := Lib.hid (fun (q : Nat) => HSR2 HS2.out q HG.out (i := u + 1) (j := u) (by rw [HSZ.out]; exact hun) (by rw [HSZ.out]; omega) HOF.out)
              rw [hD1] at HZ
              have HSZ1 : Hid (D1.size = n) := Lib.hid (by rw [← hD1, swp_size]; exact HSZ.out)
              obtain ⟨E1, hE1⟩ : ∃ E1, (if u + 1 - a ≥ 2 then Sort.shiftDown ltN u D1 else D1) = E1 := ⟨_, rfl⟩
              have HE1 := Lib.hid hE1
              have HSE1 : Hid (E1.size = n) := Lib.hid (by rw [← hE1]; split; exact (sdn_size _ _).trans HSZ1.out; exact HSZ1.out)
              obtain ⟨E2, hE2⟩ : ∃ E2, (if b - (u + 1) ≥ 2 then Sort.shiftUp ltN b (u + 1 + 1) E1 else E1) = E2 := ⟨_, rfl⟩
              have HE2 := Lib.hid hE2
              have HSE2 : Hid (E2.size = n) := Lib.hid (by rw [← hE2]; split; exact (sup_size b _ _ _ (Nat.le_refl _)).trans HSE1.out; exact HSE1.out)
              have HNX : Hid (Sort.partialIns ltN a b s (u + 1) E2 = RES) := Lib.hid (by
                rw [← HO.out, pins, HM.out, HM2.out, if_neg (by omega), if_neg h50, show u + 1 - 1 = u from rfl, hD1, hE1, hE2])
              clear hD1 hE1 hE2
              have hmeas : True := trivial
              go_wp2
              go_region
              go_upto_if 61 with fail
              go_cut [9] (fun s9 wx => (∃ q : Nat, s9 = .int .i64 q ∨ True) ∧ SR wx g pre tl E1 ∧ w.grownBy wx (some g))
              case first =>
                by_cases hd2 : u + 1 - a ≥ 2
                · have hd2' : 2 ≤ (u : Int) + 1 - (a : Int) := by omega
                  have HE1b : Hid (Sort.shiftDown ltN u D1 = E1) := Lib.hid (by rw [← HE1.out, if_pos hd2])
                  clear hcw2 hfw2
                  go_wp2
                  go_loopw [9] (fun j wr => ∃ (v : Nat) (D2 : Array Nat), j = .int .i64 v ∧ v ≤ u ∧ SR wr g pre tl D2 ∧ D2.size = n ∧ Hid (Sort.shiftDown ltN v D2 = E1) ∧ w.grownBy wr (some g)) (fun j _ => (intOf j).toNat)
                  case atStart => exact ⟨u, D1, by go_num, Nat.le_refl _, HZ.out _, HSZ1.out, HE1b, grown_swp (grown_drew HG2.out _)⟩
                  case round =>
                    obtain ⟨v, D2, rfl, hvu, hsr3, hsz3, HD, hgr3⟩ := hrel
                    have HSR3 := Lib.hid hsr3
                    have HSZ3 := Lib.hid hsz3
                    have HGR3 := Lib.hid hgr3
                    clear hsr3 hsz3 hgr3
                    cases v with
                    | zero =>
                      have HD0 : Hid (D2 = E1) := HD
                      go_wp2
                      go_meet
                      exact ⟨⟨0, .inr trivial⟩, by rw [← HD0.out]; exact HSR3.out, HGR3.out⟩
                    | succ x =>
                      obtain ⟨G, hG⟩ : ∃ G : Nat → Nat, ∀ t, G t = D2[t]! := ⟨fun t => D2[t]!, fun _ => rfl⟩
                      have hcw : ∀ t, t < n → wr.cell? ⟨g, off + t, none⟩ = some (.int .u64 ((G t : Nat) : Int)) := fun t ht => by rw [hG]; exact HSR3.out.fam HOF.out (by rw [HSZ3.out]; exact ht)
                      have hfw : ∀ t, t < n → wr.frozen? ⟨g, off + t, none⟩ = false := fun t _ => HSR3.out.frozen _
                      have HG := Lib.hid hG
                      clear hG
                      have hx1 : (1 : Int) ≤ (x : Int) + 1 := by omega
                      cases hl3 : ltN (G (x + 1)) (G x) with
                      | true =>
                        have HD1 : Hid (Sort.shiftDown ltN x (Sort.swp D2 (x + 1) x) = E1) := Lib.hid (by rw [← HD.out, sdn, ← HG.out, ← HG.out, hl3, if_pos rfl])
                        go_wp2_with fail
                        go_quiet (first | (go_at_call 94; refine Calls.quiet_of_same (iLt _ _ _)))
                        have hcw2 : ∀ t, t < n → (wr.drewN nq).cell? ⟨g, off + t, none⟩ = some (.int .u64 ((G t : Nat) : Int)) := hcw
                        have hfw2 : ∀ t, t < n → (wr.drewN nq).frozen? ⟨g, off + t, none⟩ = false := hfw
                        have HS2 : Hid (SR (wr.drewN nq) g pre tl D2) := Lib.hid (HSR3.out.drewN _)
                        have HG2 : Hid (w.grownBy (wr.drewN nq) (some g)) := Lib.hid (grown_drew HGR3.out _)
                        clear hcw hfw
                        generalize wr.drewN nq = w2 at *
                        have HZ3 := Lib.hid (fun (q : Nat) => HSR2 HS2.out q HG.out (i := x + 1) (j := x) (by rw [HSZ3.out]; omega) (by rw [HSZ3.out]; omega) HOF.out)
                        go_wp2
                        go_region
                        all_goals go_wp2
                        go_roundw
                        case rel => exact ⟨x, Sort.swp D2 (x + 1) x, by go_num, by omega, HZ3.out _, by rw [swp_size]; exact HSZ3.out, HD1, grown_swp (grown_drew HG2.out _)⟩
                        case measure => first | (simp [intOf]; done) | (simp [intOf]; omega) | omega
                      | false =>
                        have HD0 : Hid (D2 = E1) := Lib.hid (by rw [← HD.out, sdn, ← HG.out, ← HG.out, hl3, if_neg (by simp)])
                        go_wp2_with fail
                        go_quiet (first | (go_at_call 94; refine Calls.quiet_of_same (iLt _ _ _)))
                        have hcw2 : ∀ t, t < n → (wr.drewN nq).cell? ⟨g, off + t, none⟩ = some (.int .u64 ((G t : Nat) : Int)) := hcw
                        have hfw2 : ∀ t, t < n → (wr.drewN nq).frozen? ⟨g, off + t, none⟩ = false := hfw
                        have HS2 : Hid (SR (wr.drewN nq) g pre tl D2) := Lib.hid (HSR3.out.drewN _)
                        have HG2 : Hid (w.grownBy (wr.drewN nq) (some g)) := Lib.hid (grown_drew HGR3.out _)
                        clear hcw hfw
                        generalize wr.drewN nq = w2 at *
                        go_wp2
                        go_meet
                        exact ⟨⟨0, .inr trivial⟩, by rw [← HD0.out]; exact HS2.out, HG2.out⟩
                · have hd2' : ¬ 2 ≤ (u : Int) + 1 - (a : Int) := by omega
                  have HD0 : Hid (D1 = E1) := Lib.hid (by rw [← HE1.out, if_neg hd2])
                  go_wp2
                  go_meet
                  exact ⟨⟨0, .inr trivial⟩, by rw [← HD0.out]; exact HZ.out _, grown_swp (grown_drew HG2.out _)⟩
              case rest =>
                obtain ⟨_, hsc, hgc⟩ := hcut
                have HSC := Lib.hid hsc
                have HGC := Lib.hid hgc
                clear hsc hgc hcw2 hfw2
                by_cases hd3 : b - (u + 1) ≥ 2
                · have hd3' : 2 ≤ (b : Int) - ((u : Int) + 1) := by omega
                  have HE2b : Hid (Sort.shiftUp ltN b (u + 1 + 1) E1 = E2) := Lib.hid (by rw [← HE2.out, if_pos hd3])
                  go_wp2
                  go_loopw [10] (fun j wr => ∃ (v : Nat) (D3 : Array Nat), j = .int .i64 v ∧ u + 2 ≤ v ∧ v ≤ b ∧ SR wr g pre tl D3 ∧ D3.size = n ∧ Hid (Sort.shiftUp ltN b v D3 = E2) ∧ w.grownBy wr (some g)) (fun j _ => b - (intOf j).toNat)
                  case atStart => exact ⟨u + 2, E1, by go_num, Nat.le_refl _, by omega, HSC.out, HSE1.out, HE2b, HGC.out⟩
                  case round =>
                    obtain ⟨v, D3, rfl, hv1, hv2, hsr3, hsz3, HD, hgr3⟩ := hrel
                    have HSR3 := Lib.hid hsr3
                    have HSZ3 := Lib.hid hsz3
                    have HGR3 := Lib.hid hgr3
                    clear hsr3 hsz3 hgr3
                    by_cases hvb : v < b
                    · obtain ⟨x, rfl⟩ : ∃ x, v = x + 1 := ⟨v - 1, by omega⟩
                      obtain ⟨G, hG⟩ : ∃ G : Nat → Nat, ∀ t, G t = D3[t]! := ⟨fun t => D3[t]!, fun _ => rfl⟩
                      have hcw : ∀ t, t < n → wr.cell? ⟨g, off + t, none⟩ = some (.int .u64 ((G t : Nat) : Int)) := fun t ht => by rw [hG]; exact HSR3.out.fam HOF.out (by rw [HSZ3.out]; exact ht)
                      have hfw : ∀ t, t < n → wr.frozen? ⟨g, off + t, none⟩ = false := fun t _ => HSR3.out.frozen _
                      have HG := Lib.hid hG
                      clear hG
                      have hvb' : (x : Int) + 1 < (b : Int) := by omega
                      cases hl3 : ltN (G (x + 1)) (G x) with
                      | true =>
                        have HD1 : Hid (Sort.shiftUp ltN b (x + 1 + 1) (Sort.swp D3 (x + 1) x) = E2) := Lib.hid (by rw [← HD.out, sup D3 hvb, show x + 1 - 1 = x from rfl, ← HG.out, ← HG.out, hl3, if_pos rfl])
                        go_wp2_with fail
                        go_quiet (first | (go_at_call 94; refine Calls.quiet_of_same (iLt _ _ _)))
                        have hcw2 : ∀ t, t < n → (wr.drewN nq).cell? ⟨g, off + t, none⟩ = some (.int .u64 ((G t : Nat) : Int)) := hcw
                        have hfw2 : ∀ t, t < n → (wr.drewN nq).frozen? ⟨g, off + t, none⟩ = false := hfw
                        have HS2 : Hid (SR (wr.drewN nq) g pre tl D3) := Lib.hid (HSR3.out.drewN _)
                        have HG2 : Hid (w.grownBy (wr.drewN nq) (some g)) := Lib.hid (grown_drew HGR3.out _)
                        clear hcw hfw
                        generalize wr.drewN nq = w2 at *
                        have HZ3 := Lib.hid (fun (q : Nat) => HSR2 HS2.out q HG.out (i := x + 1) (j := x) (by rw [HSZ3.out]; omega) (by rw [HSZ3.out]; omega) HOF.out)
                        go_wp2
                        go_region
                        all_goals go_wp2
                        go_roundw
                        case rel => exact ⟨x + 1 + 1, Sort.swp D3 (x + 1) x, by go_num, by omega, by omega, HZ3.out _, by rw [swp_size]; exact HSZ3.out, HD1, grown_swp (grown_drew HG2.out _)⟩
                        case measure => first | (simp [intOf]; done) | (simp [intOf]; omega) | omega
                      | false =>
                        have HD0 : Hid (D3 = E2) := Lib.hid (by rw [← HD.out, sup D3 hvb, show x + 1 - 1 = x from rfl, ← HG.out, ← HG.out, hl3, if_neg (by simp)])
                        go_wp2_with fail
                        go_quiet (first | (go_at_call 94; refine Calls.quiet_of_same (iLt _ _ _)))
                        have hcw2 : ∀ t, t < n → (wr.drewN nq).cell? ⟨g, off + t, none⟩ = some (.int .u64 ((G t : Nat) : Int)) := hcw
                        have hfw2 : ∀ t, t < n → (wr.drewN nq).frozen? ⟨g, off + t, none⟩ = false := hfw
                        have HS2 : Hid (SR (wr.drewN nq) g pre tl D3) := Lib.hid (HSR3.out.drewN _)
                        have HG2 : Hid (w.grownBy (wr.drewN nq) (some g)) := Lib.hid (grown_drew HGR3.out _)
                        clear hcw hfw
                        generalize wr.drewN nq = w2 at *
                        go_wp2
                        go_roundw
                        case rel => exact ⟨u + 1, s, E2, by go_num, by first | (rw [hs5']; go_num) | go_num, by omega, by omega, by omega, by rw [← HD0.out]; exact HS2.out, HSE2.out, HNX, HG2.out⟩
                        case measure => first | (simp [intOf]; done) | (simp [intOf]; omega) | omega
                    · obtain rfl : v = b := by omega
                      have HD0 : Hid (D3 = E2) := Lib.hid (by rw [← HD.out, sup_no D3 hvb])
                      go_wp2
                      go_roundw
                      case rel => exact ⟨u + 1, s, E2, by go_num, by first | (rw [hs5']; go_num) | go_num, by omega, by omega, by omega, by rw [← HD0.out]; exact HSR3.out, HSE2.out, HNX, HGR3.out⟩
                      case measure => first | (simp [intOf]; done) | (simp [intOf]; omega) | omega
                · have hd3' : ¬ 2 ≤ (b : Int) - ((u : Int) + 1) := by omega
                  have HD0 : Hid (E1 = E2) := Lib.hid (by rw [← HE2.out, if_neg hd3])
                  go_wp2
                  go_roundw
                  case rel => exact ⟨u + 1, s, E2, by go_num, by first | (rw [hs5']; go_num) | go_num, by omega, by omega, by omega, by rw [← HD0.out]; exact HSC.out, HSE2.out, HNX, HGC.out⟩
                  case measure => first | (simp [intOf]; done) | (simp [intOf]; omega) | omega
        · obtain rfl : u + 1 = b := by omega
          have HM2 : Hid (m = u + 1) := Lib.hid (by rw [← HC.out, scan_no (fun h2 => htb2 h2.1)])
          have HE : Hid ((D, true) = RES) := Lib.hid (by rw [← HO.out, pins, HM.out, HM2.out, if_pos rfl])
          have hfl : ¬ (u : Int) + 1 < (u : Int) + 1 := by omega
          go_wp2_with fail
          go_quiet (first | (go_at_call 94; refine Calls.quiet_of_same (iLt _ _ _)))
          go_wp2
          go_ret
          exact ⟨by rw [← HE.out]; rfl, by rw [← HE.out]; exact HSRb.out.drewN _, grown_drew HGRb.out _⟩
end Go.Proofs.YtehdneppleifdaaGreatDoor
