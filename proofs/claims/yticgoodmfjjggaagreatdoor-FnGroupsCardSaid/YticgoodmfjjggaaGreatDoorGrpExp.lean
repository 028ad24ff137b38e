/- The contracts of the program's own functions on groups: the exponent. -/
import Derived.Test.YticgoodmfjjggaaGreatDoorGrpOrd
namespace Go.Proofs.YticgoodmfjjggaaGreatDoor
open Go.RowKit
set_option maxRecDepth 1000000
theorem iGcd (w : World) (a b : Int) (ha : 1 ≤ a) (ha2 : a ≤ 24) (hb : 1 ≤ b) (hb2 : b ≤ 24) :
    Calls Tryz.prog 115 #[.int .i64 a, .int .i64 b] w fun e w' => ∃ g, e = .returned (.int .i64 g) ∧ 1 ≤ g ∧ Hid (a * (b / g) = (a.lcm b : Nat)) ∧ Below w.heap.size w w' := by
  have HA := Lib.hid (And.intro ha (And.intro ha2 (And.intro hb hb2)))
  clear ha ha2 hb hb2
  go_enter Tryz.func115, Tryz.ntmps115
  go_wp2
  go_loopw [0, 1] (fun x y wr => ∃ u v : Nat, x = .int .i64 u ∧ y = .int .i64 v ∧ u ≤ 24 ∧ v ≤ 24 ∧ Hid (Nat.gcd u v = Nat.gcd a.toNat b.toNat) ∧ Below w.heap.size w wr) (fun _ y _ => (intOf y).toNat)
  case atStart => exact ⟨a.toNat, b.toNat, by congr 1; have := HA.out; omega, by congr 1; have := HA.out; omega, by have := HA.out; omega, by have := HA.out; omega, Lib.hid rfl, Below.refl _ _⟩
  case round =>
    obtain ⟨u, v, rfl, rfl, hu, hv, HG, hbel⟩ := hrel
    by_cases h0 : v = 0
    · subst h0
      have HL : Hid (1 ≤ (u : Int) ∧ a * (b / (u : Int)) = (a.lcm b : Nat)) := Lib.hid (by
        have hg := HG.out
        rw [Nat.gcd_zero_right] at hg
        obtain ⟨h1, h2, h3, h4⟩ := HA.out
        obtain ⟨an, rfl⟩ : ∃ n : Nat, a = n := ⟨a.toNat, by omega⟩
        obtain ⟨bn, rfl⟩ : ∃ n : Nat, b = n := ⟨b.toNat, by omega⟩
        simp only [Int.toNat_natCast] at hg
        have hpos : 0 < Nat.gcd an bn := Nat.gcd_pos_of_pos_left _ (by omega)
        rw [hg]
        refine ⟨by omega, ?_⟩
        have e1 : an * (bn / Nat.gcd an bn) = Nat.lcm an bn := by
          rw [Nat.lcm, Nat.mul_div_assoc _ (Nat.gcd_dvd_right an bn)]
        have e2 : ((an : Int).lcm (bn : Int)) = Nat.lcm an bn := rfl
        rw [e2, ← e1, Int.natCast_mul, Int.natCast_ediv])
      go_wp2
      go_ret
      exact ⟨_, rfl, HL.out.1, Lib.hid HL.out.2, hbel⟩
    · have hv1 : ((v : Int) != 0) = true := by simp; omega
      have hv0 : 1 ≤ v := by omega
      have HM : Hid (Nat.gcd v (u % v) = Nat.gcd a.toNat b.toNat) := Lib.hid (by rw [← HG.out, Nat.gcd_comm u v, Nat.gcd_rec v u, Nat.gcd_comm])
      have hlt := Nat.mod_lt u hv0
      clear h0
      go_wp2
      go_quiet (fail)
      go_wp2
      go_roundw
      case rel => exact ⟨v, u % v, rfl, by go_num, hv, by omega, HM.out, hbel.trans (Joins.below_draws _ _ _)⟩
      case measure => simp [intOf]; omega
theorem pad_ords {l : List Int} (h : grpB l = true) : Ords (pad l) := by
  have t := tri_grp h
  have e0 : (pad l).getD 0 0 = l.getD 0 1 := rfl
  have e1 : (pad l).getD 1 0 = l.getD 1 1 := rfl
  have e2 : (pad l).getD 2 0 = l.getD 2 1 := rfl
  have hlen : (pad l).length = 3 := rfl
  refine ⟨by rw [hlen]; exact Nat.le_refl _, fun j hj => ?_, fun k hk => ?_⟩
  · have : j = 0 ∨ j = 1 ∨ j = 2 := by rw [hlen] at hj; omega
    rcases this with rfl | rfl | rfl
    · rw [e0]; exact ⟨t.p1, t.p2⟩
    · rw [e1]; exact ⟨t.q1, t.q2⟩
    · rw [e2]; exact ⟨t.r1, t.r2⟩
  · have : k = 0 ∨ k = 1 ∨ k = 2 ∨ k = 3 := by rw [hlen] at hk; omega
    have p1 : PK (pad l) 1 = l.getD 0 1 := by rw [PK_succ _ _ (by rw [hlen]; omega), PK_zero, e0, Int.one_mul]
    have p2 : PK (pad l) 2 = l.getD 0 1 * l.getD 1 1 := by rw [PK_succ _ _ (by rw [hlen]; omega), p1, e1]
    have p3 : PK (pad l) 3 = l.getD 0 1 * l.getD 1 1 * l.getD 2 1 := by rw [PK_succ _ _ (by rw [hlen]; omega), p2, e2]
    rcases this with rfl | rfl | rfl | rfl
    · rw [PK_zero]; omega
    · rw [p1]; exact ⟨t.p1, t.p2⟩
    · rw [p2]; exact ⟨t.pq1, t.pq2⟩
    · rw [p3]; exact ⟨t.pqr1, t.pqr2⟩
theorem lcm_one' {x : Int} (h : 1 ≤ x) : ((x.lcm 1 : Nat) : Int) = x := by
  obtain ⟨n, rfl⟩ : ∃ n : Nat, x = n := ⟨x.toNat, by omega⟩
  have : ((n : Int).lcm 1) = Nat.lcm n 1 := rfl
  rw [this, Nat.lcm_one_right]
theorem exp_pad {l : List Int} (h : grpB l = true) : lcmK (pad l) 3 = lcmK l l.length := by
  have hl := (grpB_true h).1
  have hb := lcmK_bnd (ords_grp h)
  match l, hl with
  | [], _ => rfl
  | [a], _ => 
    have b1 := (hb 1 (by simp)).1
    simp only [lcmK, pad, List.getD_cons_zero, List.getD_cons_succ, List.getD_nil, List.length_cons, List.length_nil] at *
    rw [lcm_one' b1, lcm_one' b1]
  | [a, b], _ =>
    have b1 := (hb 2 (by simp)).1
    simp only [lcmK, pad, List.getD_cons_zero, List.getD_cons_succ, List.getD_nil, List.length_cons, List.length_nil] at *
    rw [lcm_one' b1]
  | [a, b, c], _ => rfl
  | _ :: _ :: _ :: _ :: _, h => simp at h
set_option maxHeartbeats 1000000 in
theorem iExpT {l : List Int} (hg : grpB l = true) (w : World) :
    Calls Tryz.prog 74 #[tV (l.getD 0 1) (l.getD 1 1) (l.getD 2 1)] w fun e w' => e = .returned (.int .i64 (lcmK l l.length)) ∧ Below w.heap.size w w' := by
  have HT := Lib.hid (tri_grp hg)
  have HF : Hid (lcmK l l.length = lcmK (pad l) 3) := Lib.hid (exp_pad hg).symm
  have PO := pad_ords hg
  have B1 := lcmK_bnd PO 1 (by simp [pad])
  have B2 := lcmK_bnd PO 2 (by simp [pad])
  have B3 := lcmK_bnd PO 3 (by simp [pad])
  have Q1 := (PO.PK 1 (by simp [pad])).2
  have Q2 := (PO.PK 2 (by simp [pad])).2
  have Q3 := (PO.PK 3 (by simp [pad])).2
  obtain ⟨L1, E1⟩ : ∃ L, Hid (lcmK (pad l) 1 = L) := ⟨_, Lib.hid rfl⟩
  obtain ⟨L2, E2⟩ : ∃ L, Hid (lcmK (pad l) 2 = L) := ⟨_, Lib.hid rfl⟩
  obtain ⟨L3, E3⟩ : ∃ L, Hid (lcmK (pad l) 3 = L) := ⟨_, Lib.hid rfl⟩
  have D1 : Hid (L1 = ((1 : Int).lcm (l.getD 0 1) : Nat)) := Lib.hid E1.out.symm
  have D2 : Hid (L2 = (L1.lcm (l.getD 1 1) : Nat)) := Lib.hid (by rw [← E1.out, ← E2.out]; rfl)
  have D3 : Hid (L3 = (L2.lcm (l.getD 2 1) : Nat)) := Lib.hid (by rw [← E2.out, ← E3.out]; rfl)
  rw [E1.out] at B1
  rw [E2.out] at B2
  rw [E3.out] at B3 HF
  rw [HF.out]
  obtain ⟨x, EP⟩ : ∃ p, Hid (l.getD 0 1 = p) := ⟨_, Lib.hid rfl⟩
  obtain ⟨y, EQ⟩ : ∃ q, Hid (l.getD 1 1 = q) := ⟨_, Lib.hid rfl⟩
  obtain ⟨z, ER⟩ : ∃ r, Hid (l.getD 2 1 = r) := ⟨_, Lib.hid rfl⟩
  have l1 : 1 ≤ L1 := B1.1
  have l1' : L1 ≤ 24 := by omega
  have l2 : 1 ≤ L2 := B2.1
  have l2' : L2 ≤ 24 := by omega
  have l3 : 1 ≤ L3 := B3.1
  have l3' : L3 ≤ 24 := by omega
  rw [EP.out, EQ.out, ER.out] at HT
  rw [EP.out] at D1
  rw [EQ.out] at D2
  rw [ER.out] at D3
  rw [EP.out, EQ.out, ER.out]
  have p1 := HT.out.p1
  have p2 := HT.out.p2
  have q1 := HT.out.q1
  have q2 := HT.out.q2
  have r1 := HT.out.r1
  have r2 := HT.out.r2
  have X0 := ix0 x y z
  have X1 := ix1 x y z
  have X2 := ix2 x y z
  have HB := Lib.hid (Joins.below_alloc1 w (.cells #[.int .i64 x, .int .i64 y, .int .i64 z] 58))
  have T1 := Lib.hid (Below.refl (w.alloc (.cells #[.int .i64 x, .int .i64 y, .int .i64 z] 58)).heap.size (w.alloc (.cells #[.int .i64 x, .int .i64 y, .int .i64 z] 58)))
  clear hg B1 B2 B3 Q1 Q2 Q3 E1 E2 E3 PO
  go_enter Tryz.func74, Tryz.ntmps74
  go_wp2
  refine wp_loop_rounds 4 ?_
  rw [rounds_succ]
  go_wp2_with (go_at_call 115; refine (iGcd _ _ _ (by decide) (by decide) p1 p2).mono ?_; rintro e w2 ⟨g1, rfl, hg1, hq1, hb2⟩; have M1 : x / g1 = L1 := (by have h := hq1.out; rw [Int.one_mul] at h; rw [h, D1.out]); have T2 := Lib.hid (T1.out.trans (hb2.mono T1.out.size)))
  clear M1 hg1
  rw [rounds_succ]
  go_wp2_with (go_at_call 115; refine (iGcd _ _ _ l1 l1' q1 q2).mono ?_; rintro e w3 ⟨g2, rfl, hg2, hq2, hb3⟩; have M2 : L1 * (y / g2) = L2 := (by rw [hq2.out, D2.out]); have T3 := Lib.hid (T2.out.trans (hb3.mono T2.out.size)))
  clear M2 hg2
  rw [rounds_succ]
  go_wp2_with (go_at_call 115; refine (iGcd _ _ _ l2 l2' r1 r2).mono ?_; rintro e w4 ⟨g3, rfl, hg3, hq3, hb4⟩; have M3 : L2 * (z / g3) = L3 := (by rw [hq3.out, D3.out]); have T4 := Lib.hid (T3.out.trans (hb4.mono T3.out.size)))
  clear M3 hg3
  rw [rounds_succ]; go_wp2
  go_ret
  exact ⟨rfl, HB.out.trans (T4.out.mono (by simp <;> omega))⟩
theorem iExp (w : World) (a : Option Addr) (l : List Int) (n cap : Nat) (hn : n = l.length) (hm : n ≤ 9223372036854775807) (hi : Ints w a l) :
    Calls Tryz.prog 11 #[.agg #[.slice a n cap]] w fun e w' => e = .returned (.int .i64 (expE l)) ∧ Below w.heap.size w w' := by
  have HI := Lib.hid (ints_alloc hi (.cells #[.slice a n cap] 26))
  have HN := Lib.hid hn
  have C1 := newC w (.slice a n cap) 26 (n := w.heap.size) rfl
  have HB := Lib.hid (Joins.below_alloc1 w (.cells #[.slice a n cap] 26))
  have T0 := Lib.hid (Below.refl (w.alloc (.cells #[.slice a n cap] 26)).heap.size (w.alloc (.cells #[.slice a n cap] 26)))
  clear hi hn
  cases hg : grpB l with
  | false =>
    have HG := Lib.hid hg
    rw [show expE l = 0 by unfold expE; rw [if_neg (by simp [hg])]]
    clear hg
    go_enter Tryz.func11, Tryz.ntmps11
    go_wp2_with (go_at_call 69; refine (iOrders _ _ _ _ _ HN.out hm HI.out).mono ?_; unfold OrdersPost; rw [HG.out]; rintro e w1 ⟨x, y, z, rfl, _, hb1⟩)
    go_ret
    exact ⟨rfl, HB.out.trans ((hb1.mono (by simp)).alloc (Nat.le_trans (by simp) hb1.size) _)⟩
  | true =>
    have HG := Lib.hid hg
    have HET := Lib.hid (fun (W : World) => iExpT hg W)
    rw [show expE l = lcmK l l.length by unfold expE; rw [if_pos hg]]
    clear hg
    go_enter Tryz.func11, Tryz.ntmps11
    go_wp2_with (first
      | (go_at_call 74; refine (HET.out _).mono ?_; rintro e w2 ⟨rfl, hb2⟩)
      | (go_at_call 69; refine (iOrders _ _ _ _ _ HN.out hm HI.out).mono ?_; unfold OrdersPost; rw [HG.out]; rintro e w1 ⟨x, y, z, rfl, hxyz, hb1⟩; obtain ⟨rfl, rfl, rfl⟩ := hxyz rfl; clear hxyz))
    go_ret
    exact ⟨rfl, HB.out.trans (((hb1.mono (by simp)).alloc (Nat.le_trans (by simp) hb1.size) _).trans (hb2.mono (by have := hb1.size; simp at *; omega)))⟩
end Go.Proofs.YticgoodmfjjggaaGreatDoor
