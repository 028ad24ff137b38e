/- Merged: GrpExp GrpAx ChaMath SetMem. -/
import Derived.Test.YthlpjiibjlaebaaGreatDoorMGAI
import Derived.Test.YthlpjiibjlaebaaGreatDoorGrpMath2
import Derived.Test.YthlpjiibjlaebaaGreatDoorMGAF
namespace Go.Proofs.YthlpjiibjlaebaaGreatDoor
open Go.RowKit
set_option maxRecDepth 1000000
theorem iGcd (w : World) (a b : Int) (ha : 1 ≤ a) (ha2 : a ≤ 24) (hb : 1 ≤ b) (hb2 : b ≤ 24) :
    Calls Tryz.prog 99 #[.int .i64 a, .int .i64 b] w fun e w' => ∃ g, e = .returned (.int .i64 g) ∧ 1 ≤ g ∧ Hid (a * (b / g) = (a.lcm b : Nat)) ∧ Below w.heap.size w w' := by
  have HA := Lib.hid (And.intro ha (And.intro ha2 (And.intro hb hb2)))
  clear ha ha2 hb hb2
  go_enter Tryz.func99, Tryz.ntmps99
  go_wp2
  go_loopw [0, 1] (fun x y wr => ∃ u v : Nat, x = .int .i64 u ∧ y = .int .i64 v ∧ u ≤ 24 ∧ v ≤ 24 ∧ Hid (Nat.gcd u v = Nat.gcd a.toNat b.toNat) ∧ Below w.heap.size w wr) (fun _ y _ => (intOf y).toNat)
  case atStart => exact ⟨a.toNat, b.toNat, by congr 1; have := HA.out; omega, by congr 1; have := HA.out; omega, by have := HA.out; omega, by have := HA.out; omega, Lib.hid rfl, Below.refl _ _⟩
  case round =>
    obtain ⟨u, v, rfl, rfl, hu, hv, HG, hbel⟩ := hrel
    by_cases h0 : v = 0
    · subst h0
      have HL : Hid (1 ≤ (u : Int) ∧ a * (b / (u : Int)) = (a.lcm b : Nat)) := Lib.hid (by
        have hg := HG.out
        rw [Nat.gcd_zero_right] at hg
        obtain ⟨h1, h2, h3, h4⟩ := HA.out
        obtain ⟨an, rfl⟩ : ∃ n : Nat, a = n := ⟨a.toNat, by omega⟩
        obtain ⟨bn, rfl⟩ : ∃ n : Nat, b = n := ⟨b.toNat, by omega⟩
        simp only [Int.toNat_natCast] at hg
        have hpos : 0 < Nat.gcd an bn := Nat.gcd_pos_of_pos_left _ (by omega)
        rw [hg]
        refine ⟨by omega, ?_⟩
        have e1 : an * (bn / Nat.gcd an bn) = Nat.lcm an bn := by
          rw [Nat.lcm, Nat.mul_div_assoc _ (Nat.gcd_dvd_right an bn)]
        have e2 : ((an : Int).lcm (bn : Int)) = Nat.lcm an bn := rfl
        rw [e2, ← e1, Int.natCast_mul, Int.natCast_ediv])
      go_wp2
      go_ret
      exact ⟨_, rfl, HL.out.1, Lib.hid HL.out.2, hbel⟩
    · have hv1 : ((v : Int) != 0) = true := by simp; omega
      have hv0 : 1 ≤ v := by omega
      have HM : Hid (Nat.gcd v (u % v) = Nat.gcd a.toNat b.toNat) := Lib.hid (by rw [← HG.out, Nat.gcd_comm u v, Nat.gcd_rec v u, Nat.gcd_comm])
      have hlt := Nat.mod_lt u hv0
      clear h0
      go_wp2
      go_quiet (fail)
      go_wp2
      go_roundw
      case rel => exact ⟨v, u % v, rfl, by go_num, hv, by omega, HM.out, hbel.trans (Joins.below_draws _ _ _)⟩
      case measure => simp [intOf]; omega
theorem pad_ords {l : List Int} (h : grpB l = true) : Ords (pad l) := by
  have t := tri_grp h
  have e0 : (pad l).getD 0 0 = l.getD 0 1 := rfl
  have e1 : (pad l).getD 1 0 = l.getD 1 1 := rfl
  have e2 : (pad l).getD 2 0 = l.getD 2 1 := rfl
  have hlen : (pad l).length = 3 := rfl
  refine ⟨by rw [hlen]; exact Nat.le_refl _, fun j hj => ?_, fun k hk => ?_⟩
  · have : j = 0 ∨ j = 1 ∨ j = 2 := by rw [hlen] at hj; omega
    rcases this with rfl | rfl | rfl
    · rw [e0]; exact ⟨t.p1, t.p2⟩
    · rw [e1]; exact ⟨t.q1, t.q2⟩
    · rw [e2]; exact ⟨t.r1, t.r2⟩
  · have : k = 0 ∨ k = 1 ∨ k = 2 ∨ k = 3 := by rw [hlen] at hk; omega
    have p1 : PK (pad l) 1 = l.getD 0 1 := by rw [PK_succ _ _ (by rw [hlen]; omega), PK_zero, e0, Int.one_mul]
    have p2 : PK (pad l) 2 = l.getD 0 1 * l.getD 1 1 := by rw [PK_succ _ _ (by rw [hlen]; omega), p1, e1]
    have p3 : PK (pad l) 3 = l.getD 0 1 * l.getD 1 1 * l.getD 2 1 := by rw [PK_succ _ _ (by rw [hlen]; omega), p2, e2]
    rcases this with rfl | rfl | rfl | rfl
    · rw [PK_zero]; omega
    · rw [p1]; exact ⟨t.p1, t.p2⟩
    · rw [p2]; exact ⟨t.pq1, t.pq2⟩
    · rw [p3]; exact ⟨t.pqr1, t.pqr2⟩
theorem lcm_one' {x : Int} (h : 1 ≤ x) : ((x.lcm 1 : Nat) : Int) = x := by
  obtain ⟨n, rfl⟩ : ∃ n : Nat, x = n := ⟨x.toNat, by omega⟩
  have : ((n : Int).lcm 1) = Nat.lcm n 1 := rfl
  rw [this, Nat.lcm_one_right]
theorem exp_pad {l : List Int} (h : grpB l = true) : lcmK (pad l) 3 = lcmK l l.length := by
  have hl := (grpB_true h).1
  have hb := lcmK_bnd (ords_grp h)
  match l, hl with
  | [], _ => rfl
  | [a], _ => 
    have b1 := (hb 1 (by simp)).1
    simp only [lcmK, pad, List.getD_cons_zero, List.getD_cons_succ, List.getD_nil, List.length_cons, List.length_nil] at *
    rw [lcm_one' b1, lcm_one' b1]
  | [a, b], _ =>
    have b1 := (hb 2 (by simp)).1
    simp only [lcmK, pad, List.getD_cons_zero, List.getD_cons_succ, List.getD_nil, List.length_cons, List.length_nil] at *
    rw [lcm_one' b1]
  | [a, b, c], _ => rfl
  | _ :: _ :: _ :: _ :: _, h => simp at h
set_option maxHeartbeats 1000000 in
theorem iExpT {l : List Int} (hg : grpB l = true) (w : World) :
    Calls Tryz.prog 89 #[tV (l.getD 0 1) (l.getD 1 1) (l.getD 2 1)] w fun e w' => e = .returned (.int .i64 (lcmK l l.length)) ∧ Below w.heap.size w w' := by
  have HT := Lib.hid (tri_grp hg)
  have HF : Hid (lcmK l l.length = lcmK (pad l) 3) := Lib.hid (exp_pad hg).symm
  have PO := pad_ords hg
  have B1 := lcmK_bnd PO 1 (by simp [pad])
  have B2 := lcmK_bnd PO 2 (by simp [pad])
  have B3 := lcmK_bnd PO 3 (by simp [pad])
  have Q1 := (PO.PK 1 (by simp [pad])).2
  have Q2 := (PO.PK 2 (by simp [pad])).2
  have Q3 := (PO.PK 3 (by simp [pad])).2
  obtain ⟨L1, E1⟩ : ∃ L, Hid (lcmK (pad l) 1 = L) := ⟨_, Lib.hid rfl⟩
  obtain ⟨L2, E2⟩ : ∃ L, Hid (lcmK (pad l) 2 = L) := ⟨_, Lib.hid rfl⟩
  obtain ⟨L3, E3⟩ : ∃ L, Hid (lcmK (pad l) 3 = L) := ⟨_, Lib.hid rfl⟩
  have D1 : Hid (L1 = ((1 : Int).lcm (l.getD 0 1) : Nat)) := Lib.hid E1.out.symm
  have D2 : Hid (L2 = (L1.lcm (l.getD 1 1) : Nat)) := Lib.hid (by rw [← E1.out, ← E2.out]; rfl)
  have D3 : Hid (L3 = (L2.lcm (l.getD 2 1) : Nat)) := Lib.hid (by rw [← E2.out, ← E3.out]; rfl)
  rw [E1.out] at B1
  rw [E2.out] at B2
  rw [E3.out] at B3 HF
  rw [HF.out]
  obtain ⟨x, EP⟩ : ∃ p, Hid (l.getD 0 1 = p) := ⟨_, Lib.hid rfl⟩
  obtain ⟨y, EQ⟩ : ∃ q, Hid (l.getD 1 1 = q) := ⟨_, Lib.hid rfl⟩
  obtain ⟨z, ER⟩ : ∃ r, Hid (l.getD 2 1 = r) := ⟨_, Lib.hid rfl⟩
  have l1 : 1 ≤ L1 := B1.1
  have l1' : L1 ≤ 24 := by omega
  have l2 : 1 ≤ L2 := B2.1
  have l2' : L2 ≤ 24 := by omega
  have l3 : 1 ≤ L3 := B3.1
  have l3' : L3 ≤ 24 := by omega
  rw [EP.out, EQ.out, ER.out] at HT
  rw [EP.out] at D1
  rw [EQ.out] at D2
  rw [ER.out] at D3
  rw [EP.out, EQ.out, ER.out]
  have p1 := HT.out.p1
  have p2 := HT.out.p2
  have q1 := HT.out.q1
  have q2 := HT.out.q2
  have r1 := HT.out.r1
  have r2 := HT.out.r2
  have X0 := ix0 x y z
  have X1 := ix1 x y z
  have X2 := ix2 x y z
  have HB := Lib.hid (Joins.below_alloc1 w (.cells #[.int .i64 x, .int .i64 y, .int .i64 z] 46))
  have T1 := Lib.hid (Below.refl (w.alloc (.cells #[.int .i64 x, .int .i64 y, .int .i64 z] 46)).heap.size (w.alloc (.cells #[.int .i64 x, .int .i64 y, .int .i64 z] 46)))
  clear hg B1 B2 B3 Q1 Q2 Q3 E1 E2 E3 PO
  go_enter Tryz.func89, Tryz.ntmps89
  go_wp2
  refine wp_loop_rounds 4 ?_
  rw [rounds_succ]
  go_wp2_with (go_at_call 99; refine (iGcd _ _ _ (by decide) (by decide) p1 p2).mono ?_; rintro e w2 ⟨g1, rfl, hg1, hq1, hb2⟩; have M1 : x / g1 = L1 := (by have h := hq1.out; rw [Int.one_mul] at h; rw [h, D1.out]); have T2 := Lib.hid (T1.out.trans (hb2.mono T1.out.size)))
  clear M1 hg1
  rw [rounds_succ]
  go_wp2_with (go_at_call 99; refine (iGcd _ _ _ l1 l1' q1 q2).mono ?_; rintro e w3 ⟨g2, rfl, hg2, hq2, hb3⟩; have M2 : L1 * (y / g2) = L2 := (by rw [hq2.out, D2.out]); have T3 := Lib.hid (T2.out.trans (hb3.mono T2.out.size)))
  clear M2 hg2
  rw [rounds_succ]
  go_wp2_with (go_at_call 99; refine (iGcd _ _ _ l2 l2' r1 r2).mono ?_; rintro e w4 ⟨g3, rfl, hg3, hq3, hb4⟩; have M3 : L2 * (z / g3) = L3 := (by rw [hq3.out, D3.out]); have T4 := Lib.hid (T3.out.trans (hb4.mono T3.out.size)))
  clear M3 hg3
  rw [rounds_succ]; go_wp2
  go_ret
  exact ⟨rfl, HB.out.trans (T4.out.mono (by simp <;> omega))⟩
end Go.Proofs.YthlpjiibjlaebaaGreatDoor

namespace Go.Proofs.YthlpjiibjlaebaaGreatDoor
theorem sdig_bndO {l : List Int} (h : Ords l) (x y : Int) {j : Nat} (hj : j < l.length) : 0 ≤ sdig l x y j ∧ sdig l x y j < l.getD j 0 := by
  have := h.pos j hj
  exact ⟨Int.emod_nonneg _ (by omega), Int.emod_lt_of_pos _ (by omega)⟩
theorem addN_dig {l : List Int} (h : Ords l) (x y : Int) {j : Nat} (hj : j < l.length) : dig l (addN l x y) j = (dig l x j + dig l y j) % l.getD j 0 := by
  rw [← sdig_eq]
  exact dig_val h _ _ _ hj (Nat.le_refl _) (fun _ hi => sdig_bndO h x y hi)
theorem addN_in {l : List Int} (h : Ords l) (x y : Int) : 0 ≤ addN l x y ∧ addN l x y < prodI l := by
  rw [← PK_full]; exact h.val_bnd _ (fun j hj => sdig_bndO h x y hj) _ (Nat.le_refl _)
theorem addN_comm (l : List Int) (x y : Int) : addN l x y = addN l y x := by
  apply val_congr
  intro j _
  rw [sdig_eq, sdig_eq, Int.add_comm]
theorem addN_assoc {l : List Int} (h : Ords l) (x y z : Int) : addN l (addN l x y) z = addN l x (addN l y z) := by
  apply val_congr
  intro j hj
  rw [sdig_eq, sdig_eq, addN_dig h x y hj, addN_dig h y z hj, Int.emod_add_emod, Int.add_emod_emod, Int.add_assoc]
theorem dig_zero0 (l : List Int) (j : Nat) : dig l 0 j = 0 := by unfold dig; simp
theorem addN_zero {l : List Int} (h : Ords l) {x : Int} (h0 : 0 ≤ x) (h1 : x < prodI l) : addN l x 0 = x := by
  have e : addN l x 0 = valK l (dig l x) l.length := by
    apply val_congr
    intro j _
    rw [sdig_eq, dig_zero0, Int.add_zero]
    unfold dig; rw [Int.emod_emod]
  rw [e, val_dig h h0 h1]
theorem addN_neg {l : List Int} (h : Ords l) (x : Int) : addN l x (negN l x) = 0 := by
  have e : addN l x (negN l x) = valK l (fun _ => 0) l.length := by
    apply val_congr
    intro j hj
    rw [sdig_eq]
    unfold negN
    rw [mulN_dig h x (-1) hj]
    unfold mulF
    rw [Int.add_emod_emod]
    rw [show dig l x j + dig l x j * -1 = 0 by omega]
    simp
  rw [e]
  have : ∀ k, valK l (fun _ => 0) k = 0 := by
    intro k; induction k with
    | zero => rfl
    | succ k ih => simp [valK, ih]
  exact this _
theorem add_neg_back {l : List Int} (h : Ords l) {x : Int} (y : Int) (h0 : 0 ≤ x) (h1 : x < prodI l) : addN l (addN l x y) (negN l y) = x := by
  rw [addN_assoc h, addN_neg h, addN_zero h h0 h1]
theorem negN_in {l : List Int} (h : Ords l) (x : Int) : 0 ≤ negN l x ∧ negN l x < prodI l := mulN_bnd h x (-1)
theorem negN_neg {l : List Int} (h : Ords l) {x : Int} (h0 : 0 ≤ x) (h1 : x < prodI l) : negN l (negN l x) = x := by
  show mulN l (negN l x) (-1) = x
  rw [mul_neg h, show (- -1 : Int) = 1 by decide, mulN_one h h0 h1]
/-- A list without doubles is no longer than one that holds it. -/
theorem len_le_of_sub : ∀ (L M : List Nat), L.Nodup → (∀ x ∈ L, x ∈ M) → L.length ≤ M.length
  | [], _, _, _ => by simp
  | x :: t, M, hn, hs => by
    rw [List.nodup_cons] at hn
    have hx := hs x (by simp)
    have := len_le_of_sub t (M.erase x) hn.2 (fun y hy => (List.mem_erase_of_ne (fun e => hn.1 (by rw [← e]; exact hy))).2 (hs y (by simp [hy])))
    rw [List.length_erase_of_mem hx] at this
    have := List.length_pos_of_mem hx
    rw [List.length_cons]; omega
end Go.Proofs.YthlpjiibjlaebaaGreatDoor

namespace Go.Proofs.YthlpjiibjlaebaaGreatDoor
/-- The exponent of the group. -/
def expN (l : List Int) : Int := lcmK l l.length
theorem lcm_dvd7 {l : List Int} : ∀ k, ∀ j, j < k → l.getD j 0 ∣ lcmK l k
  | 0, _, h => by omega
  | k + 1, j, h => by
    simp only [lcmK]
    by_cases e : j = k
    · subst e
      exact Int.dvd_lcm_right _ _
    · exact Int.dvd_trans (lcm_dvd7 k j (by omega)) (Int.dvd_lcm_left _ _)
theorem expN_pos {l : List Int} (h : Ords l) : 1 ≤ expN l := (lcmK_bnd h _ (Nat.le_refl _)).1
theorem exp_quo {l : List Int} (h : Ords l) {j : Nat} (hj : j < l.length) : expN l = l.getD j 0 * (expN l / l.getD j 0) ∧ 1 ≤ expN l / l.getD j 0 := by
  have h1 := expN_pos h
  have h2 := (h.pos j hj).1
  obtain ⟨q, hq⟩ := lcm_dvd7 (l := l) l.length j hj
  have h3 : expN l = l.getD j 0 * q := hq
  have h4 : expN l / l.getD j 0 = q := by rw [h3]; exact Int.mul_ediv_cancel_left q (by omega)
  rw [h4]
  refine ⟨h3, ?_⟩
  rcases Int.lt_or_le 0 q with hp | hp
  · omega
  · exfalso
    have : l.getD j 0 * q ≤ 0 := Int.mul_nonpos_of_nonneg_of_nonpos (by omega) hp
    omega
/-- The sum of the products of the first places. -/
def chK (l : List Int) (k x : Int) : Nat → Int
  | 0 => 0
  | j + 1 => chK l k x j + dig l k j * dig l x j * (expN l / l.getD j 0)
/-- The character's value, as an exponent. -/
def chN (l : List Int) (k x : Int) : Int := chK l k x l.length % expN l
theorem chK_comm (l : List Int) (k x : Int) : ∀ j, chK l k x j = chK l x k j
  | 0 => rfl
  | j + 1 => by
    unfold chK
    rw [chK_comm l k x j, Int.mul_comm (dig l k j) (dig l x j)]
theorem chN_comm (l : List Int) (k x : Int) : chN l k x = chN l x k := by unfold chN; rw [chK_comm]
theorem chN_bnd {l : List Int} (h : Ords l) (k x : Int) : 0 ≤ chN l k x ∧ chN l k x < expN l := by
  have := expN_pos h
  exact ⟨Int.emod_nonneg _ (by omega), Int.emod_lt_of_pos _ (by omega)⟩
theorem chK_zero (l : List Int) (k : Int) : ∀ j, chK l k 0 j = 0
  | 0 => rfl
  | j + 1 => by
    unfold chK
    rw [chK_zero l k j, dig_zero0]
    simp
theorem chN_zero (l : List Int) (k : Int) : chN l k 0 = 0 := by unfold chN; rw [chK_zero]; simp
theorem chK_add {l : List Int} (h : Ords l) (k x y : Int) : ∀ j, j ≤ l.length → ∃ q, chK l k (addN l x y) j = chK l k x j + chK l k y j + expN l * q
  | 0, _ => ⟨0, by simp [chK]⟩
  | j + 1, hj => by
    obtain ⟨q, hq⟩ := chK_add h k x y j (by omega)
    have hd := addN_dig h x y (j := j) (by omega)
    obtain ⟨he, _⟩ := exp_quo h (j := j) (by omega)
    unfold chK
    rw [hq, hd]
    obtain ⟨a, ha⟩ : ∃ a, dig l x j = a := ⟨_, rfl⟩
    obtain ⟨b, hb⟩ : ∃ b, dig l y j = b := ⟨_, rfl⟩
    obtain ⟨c, hc⟩ : ∃ c, dig l k j = c := ⟨_, rfl⟩
    obtain ⟨o, ho⟩ : ∃ o, l.getD j 0 = o := ⟨_, rfl⟩
    rw [ha, hb, hc, ho]
    rw [ho] at he
    obtain ⟨e, hE⟩ : ∃ e, expN l / o = e := ⟨_, rfl⟩
    rw [hE] at he ⊢
    refine ⟨q - c * ((a + b) / o), ?_⟩
    have h1 : (a + b) % o = a + b - o * ((a + b) / o) := by rw [Int.emod_def]
    rw [h1]
    obtain ⟨t, ht⟩ : ∃ t, (a + b) / o = t := ⟨_, rfl⟩
    rw [ht, he]
    have e1 : c * (a + b - o * t) * e = c * a * e + c * b * e - o * e * (c * t) := by
      rw [Int.mul_sub, Int.mul_add, Int.sub_mul, Int.add_mul]
      congr 1
      rw [Int.mul_assoc, Int.mul_comm c, Int.mul_assoc, Int.mul_assoc, Int.mul_assoc]
      congr 1
      rw [Int.mul_comm t, Int.mul_assoc, Int.mul_comm e]
    rw [e1, Int.mul_sub]
    omega
theorem chN_add {l : List Int} (h : Ords l) (k x y : Int) : (chN l k x + chN l k y) % expN l = chN l k (addN l x y) := by
  obtain ⟨q, hq⟩ := chK_add h k x y l.length (Nat.le_refl _)
  unfold chN
  rw [hq, Int.add_mul_emod_self_left, ← Int.add_emod]
theorem valK_none (l : List Int) : ∀ k, valK l (fun _ => 0) k = 0
  | 0 => rfl
  | k + 1 => by
    unfold valK
    rw [valK_none l k]
    simp
/-- The element with 1 at the place j. -/
def unitN (l : List Int) (j : Nat) : Int := valK l (fun i => if i = j then 1 else 0) l.length
theorem unit_in {l : List Int} (hg : grpB l = true) (j : Nat) : 0 ≤ unitN l j ∧ unitN l j < prodI l := by
  have := valK_bnd hg (fun i => if i = j then 1 else 0) l.length (Nat.le_refl _) (fun i hi => by
    have := ord_at hg hi
    show (0 : Int) ≤ (if i = j then 1 else 0) ∧ (if i = j then (1 : Int) else 0) < _
    split <;> omega)
  rw [PK_full] at this
  exact this
theorem unit_dig {l : List Int} (hg : grpB l = true) {i j : Nat} (hi : i < l.length) : dig l (unitN l j) i = if i = j then 1 else 0 :=
  dig_val (ords_grp hg) _ l.length i hi (Nat.le_refl _) (fun i hi => by
    have := ord_at hg hi
    show (0 : Int) ≤ (if i = j then 1 else 0) ∧ (if i = j then (1 : Int) else 0) < _
    split <;> omega)
theorem chK_unit {l : List Int} (hg : grpB l = true) (x : Int) {j : Nat} : ∀ m, m ≤ l.length → chK l (unitN l j) x m = if j < m then dig l x j * (expN l / l.getD j 0) else 0
  | 0, _ => by simp [chK]
  | m + 1, hm => by
    unfold chK
    rw [chK_unit hg x m (by omega), unit_dig hg (by omega)]
    by_cases e : m = j
    · subst e
      rw [if_pos rfl, if_neg (by omega), if_pos (by omega)]
      simp
    · rw [if_neg e]
      by_cases h : j < m
      · rw [if_pos h, if_pos (by omega)]
        simp
      · rw [if_neg h, if_neg (by omega)]
        simp
theorem chN_all {l : List Int} (hg : grpB l = true) {x : Int} (h0 : 0 ≤ x) (h1 : x < prodI l) (h : ∀ k, 0 ≤ k → k < prodI l → chN l k x = 0) : x = 0 := by
  have hO := ords_grp hg
  have hd : ∀ j, j < l.length → dig l x j = 0 := fun j hj => by
    have hb := dig_bnd hg x hj
    obtain ⟨he, hq⟩ := exp_quo hO hj
    have hu := unit_in hg j
    have hz := h (unitN l j) hu.1 hu.2
    unfold chN at hz
    rw [chK_unit hg x l.length (Nat.le_refl _), if_pos hj] at hz
    obtain ⟨d, ed⟩ : ∃ d, dig l x j = d := ⟨_, rfl⟩
    obtain ⟨o, eo⟩ : ∃ o, l.getD j 0 = o := ⟨_, rfl⟩
    rw [eo] at he hq hb hz
    rw [ed] at hb hz
    obtain ⟨q, eq⟩ : ∃ q, expN l / o = q := ⟨_, rfl⟩
    rw [eq] at he hq hz
    rw [ed]
    have h2 : 0 ≤ d * q := Int.mul_nonneg hb.1 (by omega)
    have h3 : d * q < expN l := by
      rw [he]
      exact Int.mul_lt_mul_of_pos_right hb.2 (by omega)
    rw [Int.emod_eq_of_lt h2 h3] at hz
    rcases Int.mul_eq_zero.1 hz with h4 | h4
    · exact h4
    · omega
  rw [← val_dig hO h0 h1, val_congr l (dig l x) (fun _ => 0) l.length hd, valK_none]
end Go.Proofs.YthlpjiibjlaebaaGreatDoor

namespace Go.Proofs.YthlpjiibjlaebaaGreatDoor
theorem mem_bits {m : Nat} (h : m < 2 ^ 24) (x : Nat) : x ∈ bitsN m ↔ m.testBit x = true := by
  constructor
  · exact fun hx => (upK_mem hx).2
  · intro hb
    unfold bitsN upK
    rw [List.mem_filter, List.mem_range]
    refine ⟨?_, hb⟩
    rcases Nat.lt_or_ge x 24 with h1 | h1
    · exact h1
    · rw [bit_no h x h1] at hb; cases hb
theorem bits_nodup (m : Nat) : (bitsN m).Nodup := by
  unfold bitsN upK
  exact List.Pairwise.filter _ List.nodup_range
theorem orF_bit (f : Nat → Int) (L : List Nat) (k : Nat) : (orF f L).testBit k = true ↔ ∃ x ∈ L, (f x).toNat = k := by
  have : ∀ (L : List Nat) (s : Nat), (L.foldl (fun s x => s ||| 2 ^ (f x).toNat) s).testBit k = true ↔ s.testBit k = true ∨ ∃ x ∈ L, (f x).toNat = k := by
    intro L
    induction L with
    | nil => intro s; simp
    | cons x t ih =>
      intro s
      rw [List.foldl_cons, ih, Nat.testBit_or, Nat.testBit_two_pow, Bool.or_eq_true, decide_eq_true_eq]
      simp only [List.mem_cons]
      constructor
      · rintro ((h | h) | ⟨y, hy, h⟩)
        · exact .inl h
        · exact .inr ⟨x, .inl rfl, h⟩
        · exact .inr ⟨y, .inr hy, h⟩
      · rintro (h | ⟨y, rfl | hy, h⟩)
        · exact .inl (.inl h)
        · exact .inl (.inr h)
        · exact .inr ⟨y, hy, h⟩
  unfold orF
  rw [this L 0]; simp
/-- The number of a set that is moved by f lies within the group, if f does. -/
theorem orF_set {l : List Int} (hg : grpB l = true) (f : Nat → Int) (L : List Nat) (hf : ∀ x, 0 ≤ f x ∧ f x < prodI l) : isS l ((orF f L : Nat) : Int) = true := by
  have hlt := orF_lt f L (prodI l).toNat (fun x _ => by have := hf x; omega)
  simp only [isS, hg, fullN_nat, Bool.true_and, Bool.and_eq_true, decide_eq_true_eq]
  generalize orF f L = A at *
  generalize 2 ^ (prodI l).toNat = N at *
  omega
end Go.Proofs.YthlpjiibjlaebaaGreatDoor
