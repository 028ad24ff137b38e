/- The document's reading of chapter 7: values of characters, kernels, annihilators. -/
import Derived.Test.YthlpjiibjlaebaaGreatDoorMGAJ
import Derived.Test.YthlpjiibjlaebaaGreatDoorMGAK
import Derived.Test.YthlpjiibjlaebaaGreatDoorMGAL
import Derived.Test.YthlpjiibjlaebaaGreatDoorMGAD
namespace Go.Proofs.YthlpjiibjlaebaaGreatDoor
open Go.RowKit
set_option maxRecDepth 1000000
theorem expE_grp {l : List Int} (hg : grpB l = true) : expE l = expN l := by unfold expE expN; rw [if_pos hg]
theorem expN_le {l : List Int} (hg : grpB l = true) : 1 ≤ expN l ∧ expN l ≤ 24 := by
  have hO := ords_grp hg
  have h2 := (lcmK_bnd hO _ (Nat.le_refl _)).2
  rw [PK_full] at h2
  have h3 := hO.prod
  have h4 : expN l ≤ prodI l := h2
  exact ⟨expN_pos hO, by omega⟩
theorem prod3 {a b q : Int} (a0 : 0 ≤ a) (a1 : a ≤ 23) (b0 : 0 ≤ b) (b1 : b ≤ 23) (q0 : 0 ≤ q) (q1 : q ≤ 24) : 0 ≤ a * b ∧ a * b ≤ 529 ∧ 0 ≤ a * b * q ∧ a * b * q ≤ 12696 := by
  have h1 : 0 ≤ a * b := Int.mul_nonneg a0 b0
  have h2 : a * b ≤ 23 * 23 := Int.mul_le_mul a1 b1 b0 (by decide)
  have h3 : 0 ≤ a * b * q := Int.mul_nonneg h1 q0
  have h4 : a * b * q ≤ 529 * 24 := Int.mul_le_mul (by omega) q1 q0 (by decide)
  omega
theorem chK_bnd {l : List Int} (hg : grpB l = true) (k x : Int) : ∀ j : Nat, j ≤ l.length → 0 ≤ chK l k x j ∧ chK l k x j ≤ 12696 * (j : Int)
  | 0, _ => by simp [chK]
  | j + 1, hj => by
    have ih := chK_bnd hg k x j (by omega)
    have d1 := dig_bnd hg k (k := j) (by omega)
    have d2 := dig_bnd hg x (k := j) (by omega)
    have o1 := ord_at hg (k := j) (by omega)
    obtain ⟨e1, e2⟩ := exp_quo (ords_grp hg) (j := j) (by omega)
    have e3 := expN_le hg
    have q1 : expN l / l.getD j 0 ≤ 24 := Int.le_trans (Int.ediv_le_self _ (by omega)) e3.2
    have h := prod3 d1.1 (by omega) d2.1 (by omega) (show 0 ≤ expN l / l.getD j 0 by omega) q1
    unfold chK
    omega
set_option maxHeartbeats 4000000 in
theorem sVal7 (w : World) (a : Option Addr) (l : List Int) (n cap : Nat) (k x : Int) (hk0 : 0 ≤ k) (hk : k ≤ 23) (hx0 : 0 ≤ x) (hx : x ≤ 23) (hn : n = l.length) (hm : n ≤ 9223372036854775807) (hg : grpB l = true) (hi : Ints w a l) :
    Calls Tryz.prog 41 #[.agg #[.slice a n cap], .int .i64 k, .int .i64 x] w fun e w' => e = .returned (.int .i64 (chN l k x)) ∧ Below w.heap.size w w' := by
  have HI0 := Lib.hid hi
  have HI := Lib.hid (ints_alloc hi (.cells #[.slice a n cap] 26))
  have HN := Lib.hid hn
  have C1 := newC w (.slice a n cap) 26 (n := w.heap.size) rfl
  have HB := Lib.hid (Joins.below_alloc1 w (.cells #[.slice a n cap] 26))
  have T0 := Lib.hid (Below.refl (w.alloc (.cells #[.slice a n cap] 26)).heap.size (w.alloc (.cells #[.slice a n cap] 26)))
  clear hi hn
  have HG := Lib.hid hg
  have HX := Lib.hid (And.intro hx0 hx)
  have HK := Lib.hid (And.intro hk0 hk)
  have hn3 : n ≤ 3 := by rw [HN.out]; exact (grpB_true hg).1
  obtain ⟨e, hE⟩ : ∃ e, expN l = e := ⟨_, rfl⟩
  have HEE : Hid (expE l = e) := Lib.hid (by rw [expE_grp hg, hE])
  have HEN := Lib.hid hE
  have he := expN_le hg
  rw [hE] at he
  clear hg hx0 hx hk0 hk hE
  go_enter Tryz.func41, Tryz.ntmps41
  go_wp2_with (go_at_call 10; refine (sExp _ _ l _ _ HN.out hm (HI.out.below rfl T0.out)).mono ?_; rw [HEE.out]; rintro e1 w1 ⟨rfl, hb1⟩; have T1 := Lib.hid (T0.out.trans (hb1.mono T0.out.size)); have c1 := keepC T1.out (by simp) C1; clear hb1)
  go_loopw [1, 2, 8, 9] (fun u v z i wr => ∃ j : Nat, j ≤ n ∧ i = .int .i64 j ∧ u = .int .i64 (k / PK l j) ∧ v = .int .i64 (x / PK l j) ∧ z = .int .i64 (chK l k x j) ∧ Below (w.heap.size + 1) (w.alloc (.cells #[.slice a n cap] 26)) wr) (fun _ _ _ i _ => n - (intOf i).toNat)
  case atStart => exact ⟨0, by omega, rfl, by rw [PK_zero, Int.ediv_one], by rw [PK_zero, Int.ediv_one], rfl, by have := T1.out; simpa using this⟩
  case round =>
    obtain ⟨j, hj, rfl, rfl, rfl, rfl, hbel⟩ := hrel
    have c2 := keepC hbel (by simp) C1
    by_cases hlt : j < n
    · have hjl : j < l.length := by rw [← HN.out]; exact hlt
      rcases HI0.out with h0 | ⟨b, off, h1, hbl, hc⟩
      · rw [h0] at hjl; simp at hjl
      · subst h1
        have r1 : wr.cell? ⟨b, off + j, none⟩ = some (.int .i64 (l.getD j 0)) := keepC hbel (by simp; omega) (keepC (Joins.below_alloc1 w _) (by simpa using hbl) (hc j hjl))
        obtain ⟨p1, p2⟩ := PK_grp HG.out j (by omega)
        obtain ⟨o1, o2⟩ := ord_at HG.out hjl
        obtain ⟨x1, x2⟩ := quo_bnd HX.out.1 p1
        obtain ⟨k1, k2⟩ := quo_bnd HK.out.1 p1
        have x3 := Int.le_trans x2 HX.out.2
        have k3 := Int.le_trans k2 HK.out.2
        have QX := Lib.hid (quo_step l x j hjl (by omega))
        have QK := Lib.hid (quo_step l k j hjl (by omega))
        obtain ⟨z1, z2⟩ := chK_bnd HG.out k x j (by omega)
        have HV : Hid (chK l k x (j + 1) = chK l k x j + k / PK l j % l.getD j 0 * (x / PK l j % l.getD j 0) * (e / l.getD j 0)) := Lib.hid (by rw [← HEN.out]; rfl)
        have HBL := Lib.hid hbel
        obtain ⟨q1, q2⟩ := exp_quo (ords_grp HG.out) hjl
        rw [HEN.out] at q1 q2
        clear hc hjl x2 k2 hbel
        generalize chK l k x j = z at *
        generalize x / PK l j = v at *
        generalize k / PK l j = u at *
        generalize l.getD j 0 = c at *
        generalize PK l j = N at *
        have a1 : 0 ≤ u % c := Int.emod_nonneg _ (by omega)
        have a2 : u % c < c := Int.emod_lt_of_pos _ (by omega)
        have a3 : 0 ≤ v % c := Int.emod_nonneg _ (by omega)
        have a4 : v % c < c := Int.emod_lt_of_pos _ (by omega)
        have q3 : e / c ≤ 24 := Int.le_trans (Int.ediv_le_self _ (by omega)) he.2
        have q4 : 0 ≤ e / c := by omega
        obtain ⟨m1, m2, m3, m4⟩ := prod3 a1 (by omega) a3 (by omega) q4 q3
        have c0 : (c == 0) = false := by simp; omega
        have c3 : c ≠ 0 := by omega
        clear q1
        go_wp2
        go_quiet (fail)
        go_wp2
        go_roundw
        case rel => exact ⟨j + 1, by omega, by go_num, by rw [QK.out], by rw [QX.out], by rw [HV.out], HBL.out.trans (Joins.below_draws _ _ _)⟩
        case measure => simp [intOf]; omega
    · obtain rfl : j = n := by omega
      have HBL := Lib.hid hbel
      have HFIN : Hid (chK l k x j % e = chN l k x) := Lib.hid (by unfold chN; rw [HEN.out, HN.out])
      obtain ⟨z1, z2⟩ := chK_bnd HG.out k x j (by rw [HN.out]; exact Nat.le_refl _)
      have e0 : (e == 0) = false := by simp; omega
      have e3 : e ≠ 0 := by omega
      generalize chK l k x j = z at *
      clear hbel
      go_wp2
      go_ret
      exact ⟨by rw [← HFIN.out]; rfl, HB.out.trans (HBL.out.mono (by omega))⟩
def valE (l : List Int) (k x : Int) : Int := if isE l k = true ∧ isE l x = true then chN l k x else -1
theorem isE_23 {l : List Int} {x : Int} (h : isE l x = true) : grpB l = true ∧ 0 ≤ x ∧ x ≤ 23 ∧ x < prodI l := by
  obtain ⟨hg, h1, h2, h3⟩ := isE_true h
  exact ⟨hg, h1, h3, h2⟩
set_option maxHeartbeats 4000000 in
theorem sChar (w : World) (a : Option Addr) (l : List Int) (n cap : Nat) (k x : Int) (hn : n = l.length) (hm : n ≤ 9223372036854775807) (hi : Ints w a l) :
    Calls Tryz.prog 7 #[.agg #[.slice a n cap], .int .i64 k, .int .i64 x] w fun e w' => e = .returned (.int .i64 (valE l k x)) ∧ Below w.heap.size w w' := by
  have HI := Lib.hid (ints_alloc hi (.cells #[.slice a n cap] 26))
  have HN := Lib.hid hn
  have C1 := newC w (.slice a n cap) 26 (n := w.heap.size) rfl
  have HB := Lib.hid (Joins.below_alloc1 w (.cells #[.slice a n cap] 26))
  have T0 := Lib.hid (Below.refl (w.alloc (.cells #[.slice a n cap] 26)).heap.size (w.alloc (.cells #[.slice a n cap] 26)))
  clear hi hn
  cases hk : isE l k with
  | false =>
    have HK : Hid (false = isE l k) := Lib.hid hk.symm
    rw [show valE l k x = -1 by unfold valE; rw [if_neg (by simp [hk])]]
    clear hk
    go_enter Tryz.func7, Tryz.ntmps7
    go_wp2_with (go_at_call 40; refine (sIs _ _ _ _ _ _ _ HK.out HN.out hm (HI.out.below rfl T0.out)).mono ?_; rintro e w1 ⟨rfl, hb1⟩; have T1 := Lib.hid (T0.out.trans (hb1.mono T0.out.size)); have c1 := keepC T1.out (by simp) C1)
    go_ret
    exact ⟨rfl, HB.out.trans (T1.out.mono (by simp))⟩
  | true =>
    have HK : Hid (true = isE l k) := Lib.hid hk.symm
    cases hx : isE l x with
    | false =>
      have HX : Hid (false = isE l x) := Lib.hid hx.symm
      rw [show valE l k x = -1 by unfold valE; rw [if_neg (by simp [hx])]]
      clear hk hx
      go_enter Tryz.func7, Tryz.ntmps7
      go_wp2_with (first
      | (go_at_call 40; have hx_ := T1; clear hx_; refine (sIs _ _ _ _ _ _ _ HX.out HN.out hm (HI.out.below rfl T1.out)).mono ?_; rintro e w2 ⟨rfl, hb2⟩; have T2 := Lib.hid (T1.out.trans (hb2.mono T1.out.size)); have c2 := keepC T2.out (by simp) C1)
      | (go_at_call 40; refine (sIs _ _ _ _ _ _ _ HK.out HN.out hm (HI.out.below rfl T0.out)).mono ?_; rintro e w1 ⟨rfl, hb1⟩; have T1 := Lib.hid (T0.out.trans (hb1.mono T0.out.size)); have c1 := keepC T1.out (by simp) C1))
      go_ret
      exact ⟨rfl, HB.out.trans (T2.out.mono (by simp))⟩
    | true =>
      have HX : Hid (true = isE l x) := Lib.hid hx.symm
      rw [show valE l k x = chN l k x by unfold valE; rw [if_pos ⟨hk, hx⟩]]
      obtain ⟨hg, k0, k1, _⟩ := isE_23 hk
      obtain ⟨_, x0, x1, _⟩ := isE_23 hx
      have HG := Lib.hid hg
      clear hk hx hg
      go_enter Tryz.func7, Tryz.ntmps7
      go_wp2_with (first
      | (go_at_call 41; refine (sVal7 _ _ l _ _ k x k0 k1 x0 x1 HN.out hm HG.out (HI.out.below rfl T2.out)).mono ?_; rintro e w3 ⟨rfl, hb3⟩; have T3 := Lib.hid (T2.out.trans (hb3.mono T2.out.size)); have c3 := keepC T3.out (by simp) C1)
      | (go_at_call 40; have hx_ := T1; clear hx_; refine (sIs _ _ _ _ _ _ _ HX.out HN.out hm (HI.out.below rfl T1.out)).mono ?_; rintro e w2 ⟨rfl, hb2⟩; have T2 := Lib.hid (T1.out.trans (hb2.mono T1.out.size)); have c2 := keepC T2.out (by simp) C1)
      | (go_at_call 40; refine (sIs _ _ _ _ _ _ _ HK.out HN.out hm (HI.out.below rfl T0.out)).mono ?_; rintro e w1 ⟨rfl, hb1⟩; have T1 := Lib.hid (T0.out.trans (hb1.mono T0.out.size)); have c1 := keepC T1.out (by simp) C1))
      go_ret
      exact ⟨rfl, HB.out.trans (T3.out.mono (by simp))⟩
/-- The elements, of the first m, at which a character is 0. -/
def kerK (l : List Int) (k m : Nat) : Nat := orF (fun x : Nat => (x : Int)) ((List.range m).filter fun x => chN l (k : Int) (x : Int) == 0)
theorem kerK_yes {l : List Int} {k m : Nat} (h : chN l (k : Int) (m : Int) = 0) : kerK l k (m + 1) = kerK l k m ||| 2 ^ m := by
  unfold kerK
  rw [List.range_succ, List.filter_append]
  have : [m].filter (fun x : Nat => chN l (k : Int) (x : Int) == 0) = [m] := by simp [h]
  rw [this, orF_snoc, Int.toNat_natCast]
theorem kerK_no {l : List Int} {k m : Nat} (h : chN l (k : Int) (m : Int) ≠ 0) : kerK l k (m + 1) = kerK l k m := by
  unfold kerK
  rw [List.range_succ, List.filter_append]
  have : [m].filter (fun x : Nat => chN l (k : Int) (x : Int) == 0) = [] := by simp [h]
  rw [this, List.append_nil]
theorem kerK_lt (l : List Int) (k m : Nat) : kerK l k m < 2 ^ m := by
  unfold kerK
  refine orF_lt _ _ m fun x hx => ?_
  rw [List.mem_filter, List.mem_range] at hx
  rw [Int.toNat_natCast]
  exact hx.1
theorem kerK_lt24 (l : List Int) (k : Nat) {m : Nat} (hm : m ≤ 24) : kerK l k m < 2 ^ 24 := Nat.lt_of_lt_of_le (kerK_lt l k m) (Nat.pow_le_pow_right (by decide) hm)
theorem kerK_bit (l : List Int) (k m x : Nat) : (kerK l k m).testBit x = true ↔ x < m ∧ chN l (k : Int) (x : Int) = 0 := by
  unfold kerK
  rw [orF_bit]
  constructor
  · rintro ⟨y, hy, rfl⟩
    rw [List.mem_filter, List.mem_range, beq_iff_eq] at hy
    rw [Int.toNat_natCast]
    exact hy
  · rintro ⟨h1, h2⟩
    exact ⟨x, by rw [List.mem_filter, List.mem_range, beq_iff_eq]; exact ⟨h1, h2⟩, Int.toNat_natCast x⟩
def kerE (l : List Int) (k : Int) : Int := if isE l k = true then ((kerK l k.toNat (prodI l).toNat : Nat) : Int) else -1
set_option maxHeartbeats 4000000 in
theorem sKer (w : World) (a : Option Addr) (l : List Int) (n cap : Nat) (k : Int) (hn : n = l.length) (hm : n ≤ 9223372036854775807) (hi : Ints w a l) :
    Calls Tryz.prog 31 #[.agg #[.slice a n cap], .int .i64 k] w fun e w' => e = .returned (.int .i64 (kerE l k)) ∧ Below w.heap.size w w' := by
  have HI := Lib.hid (ints_alloc hi (.cells #[.slice a n cap] 26))
  have HN := Lib.hid hn
  have C1 := newC w (.slice a n cap) 26 (n := w.heap.size) rfl
  have HB := Lib.hid (Joins.below_alloc1 w (.cells #[.slice a n cap] 26))
  have T0 := Lib.hid (Below.refl (w.alloc (.cells #[.slice a n cap] 26)).heap.size (w.alloc (.cells #[.slice a n cap] 26)))
  clear hi hn
  cases hk : isE l k with
  | false =>
    have HK : Hid (false = isE l k) := Lib.hid hk.symm
    rw [show kerE l k = -1 by unfold kerE; rw [if_neg (by simp [hk])]]
    clear hk
    go_enter Tryz.func31, Tryz.ntmps31
    go_wp2_with (go_at_call 40; refine (sIs _ _ _ _ _ _ _ HK.out HN.out hm (HI.out.below rfl T0.out)).mono ?_; rintro e w1 ⟨rfl, hb1⟩; have T1 := Lib.hid (T0.out.trans (hb1.mono T0.out.size)); have c1 := keepC T1.out (by simp) C1)
    go_ret
    exact ⟨rfl, HB.out.trans (T1.out.mono (by simp))⟩
  | true =>
    have HK : Hid (true = isE l k) := Lib.hid hk.symm
    obtain ⟨hg, k0, k1, _⟩ := isE_23 hk
    obtain ⟨k, rfl⟩ : ∃ n : Nat, k = (n : Int) := ⟨k.toNat, by omega⟩
    rw [show kerE l (k : Int) = ((kerK l k (prodI l).toNat : Nat) : Int) by unfold kerE; rw [if_pos hk, Int.toNat_natCast]]
    have hP := (ords_grp hg).prod
    obtain ⟨P, hPe⟩ : ∃ P : Nat, prodI l = (P : Int) := ⟨(prodI l).toNat, by omega⟩
    rw [hPe] at hP
    rw [show (prodI l).toNat = P by omega]
    have HP := Lib.hid hPe
    have hP24 : P ≤ 24 := by omega
    have HG := Lib.hid hg
    clear hk hg hP hPe
    go_enter Tryz.func31, Tryz.ntmps31
    go_wp2_with (go_at_call 40; refine (sIs _ _ _ _ _ _ _ HK.out HN.out hm (HI.out.below rfl T0.out)).mono ?_; rintro e w1 ⟨rfl, hb1⟩; have T1 := Lib.hid (T0.out.trans (hb1.mono T0.out.size)); have c1 := keepC T1.out (by simp) C1)
    go_loopw [5, 6] (fun o i wr => ∃ m : Nat, m ≤ P ∧ i = .int .i64 m ∧ o = .int .i64 (kerK l k m : Nat) ∧ Below w1.heap.size w1 wr) (fun _ i _ => P - (intOf i).toNat)
    case atStart => exact ⟨0, Nat.zero_le _, rfl, rfl, Below.refl _ _⟩
    case round =>
      obtain ⟨m, hm2, rfl, rfl, hbel⟩ := hrel
      have T4 := Lib.hid (T1.out.trans (hbel.mono T1.out.size))
      have c4 := keepC T4.out (by simp) C1
      have HIr := Lib.hid (HI.out.below rfl T4.out)
      have HBL := Lib.hid hbel
      clear hbel
      by_cases hlt : m < P
      · have hm23 : (m : Int) ≤ 23 := by omega
        have HY := Lib.hid (fun h => kerK_yes (l := l) (k := k) (m := m) h)
        have HZ := Lib.hid (fun h => kerK_no (l := l) (k := k) (m := m) h)
        have hS24 : kerK l k m < 16777216 := kerK_lt24 l k (by omega)
        obtain ⟨S, hSS⟩ : ∃ S, kerK l k m = S := ⟨_, rfl⟩
        obtain ⟨V, hV⟩ : ∃ V, chN l (k : Int) (m : Int) = V := ⟨_, rfl⟩
        have HV := Lib.hid hV
        rw [hSS] at HY HZ hS24
        rw [hSS]
        rw [hV] at HY HZ
        have HOR := Lib.hid (or_step (O := S) (V := (m : Int)) hS24 (by omega) hm23)
        rw [Int.toNat_natCast] at HOR
        have HORS := HOR.out
        clear hSS hV hS24
        by_cases hvs : V = 0
        · have E1 := Lib.hid (HY.out hvs)
          have HV := Lib.hid (HV.out.trans hvs)
          clear HY HZ hvs
          go_wp2_with (first
            | (go_at_call 41; refine (sVal7 _ _ l _ _ (k : Int) (m : Int) k0 k1 (by omega) hm23 HN.out hm HG.out HI5.out).mono ?_; rw [HV.out]; rintro e w6 ⟨rfl, hb6⟩)
            | (go_at_call 43; refine (sOrder _ _ l _ _ HN.out HG.out HIr.out).mono ?_; rw [HP.out]; rintro e w5 ⟨rfl, hb5⟩; have HI5 := Lib.hid (HIr.out.below rfl hb5); have c5 := keepC hb5 (World.block_lt_of_cell? wr _ c4) c4))
          go_roundw
          case rel => exact ⟨m + 1, by omega, by go_num, by rw [E1.out], HBL.out.trans ((hb5.trans (hb6.mono hb5.size)).mono HBL.out.size)⟩
          case measure => simp [intOf]; omega
        · have E1 := Lib.hid (HZ.out hvs)
          have hne : (V == 0) = false := by simpa using hvs
          clear HY HZ HOR HORS
          go_wp2_with (first
            | (go_at_call 41; refine (sVal7 _ _ l _ _ (k : Int) (m : Int) k0 k1 (by omega) hm23 HN.out hm HG.out HI5.out).mono ?_; rw [HV.out]; rintro e w6 ⟨rfl, hb6⟩)
            | (go_at_call 43; refine (sOrder _ _ l _ _ HN.out HG.out HIr.out).mono ?_; rw [HP.out]; rintro e w5 ⟨rfl, hb5⟩; have HI5 := Lib.hid (HIr.out.below rfl hb5); have c5 := keepC hb5 (World.block_lt_of_cell? wr _ c4) c4))
          go_roundw
          case rel => exact ⟨m + 1, by omega, by go_num, by rw [E1.out], HBL.out.trans ((hb5.trans (hb6.mono hb5.size)).mono HBL.out.size)⟩
          case measure => simp [intOf]; omega
      · obtain rfl : m = P := by omega
        go_wp2_with (go_at_call 43; refine (sOrder _ _ l _ _ HN.out HG.out HIr.out).mono ?_; rw [HP.out]; rintro e w5 ⟨rfl, hb5⟩)
        go_ret
        exact ⟨rfl, HB.out.trans ((T4.out.trans (hb5.mono T4.out.size)).mono (by simp))⟩
/-- Those of the first m elements whose characters are 0 on all of h. -/
def annM (l : List Int) (h m : Nat) : Nat := orF (fun x : Nat => (x : Int)) ((List.range m).filter fun k => (bitsN h).all fun x => chN l (k : Int) (x : Int) == 0)
theorem ann_cond {l : List Int} (hg : grpB l = true) {h k : Nat} (hh : h < 2 ^ (prodI l).toNat) : ((bitsN h).all fun x : Nat => chN l (k : Int) (x : Int) == 0) = decide (kerK l k (prodI l).toNat &&& h = h) := by
  have h24 := grp_pow hg hh
  by_cases e : kerK l k (prodI l).toNat &&& h = h
  · rw [decide_eq_true e, List.all_eq_true]
    intro x hx
    have hb := (mem_bits h24 x).1 hx
    rw [← e, Nat.testBit_and, Bool.and_eq_true] at hb
    simpa using ((kerK_bit l k _ x).1 hb.1).2
  · rw [decide_eq_false e, List.all_eq_false]
    rw [← List.all_eq_false, ← Bool.not_eq_true]
    intro hall
    rw [List.all_eq_true] at hall
    refine e (Nat.eq_of_testBit_eq fun x => ?_)
    rw [Nat.testBit_and]
    cases hb : h.testBit x with
    | false => simp
    | true =>
      have h1 := hall x ((mem_bits h24 x).2 hb)
      have h2 := el_of hg hh hb
      rw [(kerK_bit l k _ x).2 ⟨by omega, by simpa using h1⟩]
      rfl
theorem annM_yes {l : List Int} (hg : grpB l = true) {h m : Nat} (hh : h < 2 ^ (prodI l).toNat) (e : kerK l m (prodI l).toNat &&& h = h) : annM l h (m + 1) = annM l h m ||| 2 ^ m := by
  unfold annM
  rw [List.range_succ, List.filter_append]
  have : [m].filter (fun k : Nat => (bitsN h).all fun x : Nat => chN l (k : Int) (x : Int) == 0) = [m] := by
    rw [List.filter_cons, ann_cond hg hh, if_pos (by simpa using e)]
    rfl
  rw [this, orF_snoc, Int.toNat_natCast]
theorem annM_no {l : List Int} (hg : grpB l = true) {h m : Nat} (hh : h < 2 ^ (prodI l).toNat) (e : kerK l m (prodI l).toNat &&& h ≠ h) : annM l h (m + 1) = annM l h m := by
  unfold annM
  rw [List.range_succ, List.filter_append]
  have : [m].filter (fun k : Nat => (bitsN h).all fun x : Nat => chN l (k : Int) (x : Int) == 0) = [] := by
    rw [List.filter_cons, ann_cond hg hh, if_neg (by simpa using e)]
    rfl
  rw [this, List.append_nil]
theorem annM_lt24 (l : List Int) (h : Nat) {m : Nat} (hm : m ≤ 24) : annM l h m < 2 ^ 24 := by
  unfold annM
  refine orF_lt _ _ 24 fun x hx => ?_
  rw [List.mem_filter, List.mem_range] at hx
  rw [Int.toNat_natCast]
  omega
def annE (l : List Int) (h : Int) : Int := if isS l h = true then ((annM l h.toNat (prodI l).toNat : Nat) : Int) else -1
set_option maxHeartbeats 4000000 in
theorem sAnn (w : World) (a : Option Addr) (l : List Int) (n cap : Nat) (s : Int) (hn : n = l.length) (hm : n ≤ 9223372036854775807) (hi : Ints w a l) :
    Calls Tryz.prog 14 #[.agg #[.slice a n cap], .int .i64 s] w fun e w' => e = .returned (.int .i64 (annE l s)) ∧ Below w.heap.size w w' := by
  have HI := Lib.hid (ints_alloc hi (.cells #[.slice a n cap] 26))
  have HN := Lib.hid hn
  have C1 := newC w (.slice a n cap) 26 (n := w.heap.size) rfl
  have HB := Lib.hid (Joins.below_alloc1 w (.cells #[.slice a n cap] 26))
  have T0 := Lib.hid (Below.refl (w.alloc (.cells #[.slice a n cap] 26)).heap.size (w.alloc (.cells #[.slice a n cap] 26)))
  clear hi hn
  cases hs : isS l s with
  | false =>
    have HS := Lib.hid hs
    rw [show annE l s = -1 by unfold annE; rw [if_neg (by simp [hs])]]
    clear hs
    go_enter Tryz.func14, Tryz.ntmps14
    go_wp2_with (go_at_call 48; refine (sIsSet _ _ _ _ _ _ HN.out hm (HI.out.below rfl T0.out)).mono ?_; rw [HS.out]; rintro e w1 ⟨rfl, hb1⟩; have T1 := Lib.hid (T0.out.trans (hb1.mono T0.out.size)); have c1 := keepC T1.out (by simp) C1)
    go_ret
    exact ⟨rfl, HB.out.trans (T1.out.mono (by simp))⟩
  | true =>
    have HS := Lib.hid hs
    obtain ⟨hg, s, rfl, hsn, hs24⟩ := isS_true hs
    rw [show annE l (s : Int) = ((annM l s (prodI l).toNat : Nat) : Int) by unfold annE; rw [if_pos hs, Int.toNat_natCast]]
    have HYA := Lib.hid (fun (m : Nat) (e : kerK l m (prodI l).toNat &&& s = s) => annM_yes hg hsn e)
    have HZA := Lib.hid (fun (m : Nat) (e : kerK l m (prodI l).toNat &&& s ≠ s) => annM_no hg hsn e)
    have HKE := Lib.hid (fun (m : Nat) (hm2 : (m : Int) < prodI l) => show kerE l ((m : Nat) : Int) = ((kerK l m (prodI l).toNat : Nat) : Int) by unfold kerE; rw [if_pos (by simp only [isE, ordN_grp hg, Bool.and_eq_true, decide_eq_true_eq]; omega), Int.toNat_natCast])
    have HK24 := Lib.hid (fun m => grp_pow hg (kerK_lt l m (prodI l).toNat))
    have hP := (ords_grp hg).prod
    obtain ⟨P, hPe⟩ : ∃ P : Nat, prodI l = (P : Int) := ⟨(prodI l).toNat, by omega⟩
    rw [hPe] at hP
    have HPP : Hid ((prodI l).toNat = P) := Lib.hid (by omega)
    rw [HPP.out] at HYA HZA HKE HK24
    rw [HPP.out]
    have HP := Lib.hid hPe
    have hP24 : P ≤ 24 := by omega
    have HG := Lib.hid hg
    have hs2 : s < 16777216 := hs24
    clear hs hg hP hsn hs24 hPe
    go_enter Tryz.func14, Tryz.ntmps14
    go_wp2_with (go_at_call 48; refine (sIsSet _ _ _ _ _ _ HN.out hm (HI.out.below rfl T0.out)).mono ?_; rw [HS.out]; rintro e w1 ⟨rfl, hb1⟩; have T1 := Lib.hid (T0.out.trans (hb1.mono T0.out.size)); have c1 := keepC T1.out (by simp) C1)
    go_loopw [5, 6] (fun o i wr => ∃ m : Nat, m ≤ P ∧ i = .int .i64 m ∧ o = .int .i64 (annM l s m : Nat) ∧ Below w1.heap.size w1 wr) (fun _ i _ => P - (intOf i).toNat)
    case atStart => exact ⟨0, Nat.zero_le _, rfl, rfl, Below.refl _ _⟩
    case round =>
      obtain ⟨m, hm2, rfl, rfl, hbel⟩ := hrel
      have T4 := Lib.hid (T1.out.trans (hbel.mono T1.out.size))
      have c4 := keepC T4.out (by simp) C1
      have HIr := Lib.hid (HI.out.below rfl T4.out)
      have HBL := Lib.hid hbel
      clear hbel
      by_cases hlt : m < P
      · have hm23 : (m : Int) ≤ 23 := by omega
        have HY := Lib.hid (HYA.out m)
        have HZ := Lib.hid (HZA.out m)
        have HV := Lib.hid (HKE.out m (by rw [HP.out]; omega))
        have hV24 : kerK l m P < 16777216 := HK24.out m
        have hS24 : annM l s m < 16777216 := annM_lt24 l s (by omega)
        obtain ⟨S, hSS⟩ : ∃ S, annM l s m = S := ⟨_, rfl⟩
        obtain ⟨V, hV⟩ : ∃ V, kerK l m P = V := ⟨_, rfl⟩
        rw [hSS] at HY HZ hS24
        rw [hSS]
        rw [hV] at HY HZ HV hV24
        have HOR := Lib.hid (or_step (O := S) (V := (m : Int)) hS24 (by omega) hm23)
        rw [Int.toNat_natCast] at HOR
        have HORS := HOR.out
        have hand := andI V s (by omega) (by omega)
        obtain ⟨A, hA⟩ : ∃ A, V &&& s = A := ⟨_, rfl⟩
        rw [hA] at hand HY HZ
        clear hSS hV hS24 hA
        by_cases hvs : A = s
        · have E1 := Lib.hid (HY.out hvs)
          subst hvs
          clear HY HZ
          go_wp2_with (first
            | (go_at_call 31; refine (sKer _ _ l _ _ (m : Int) HN.out hm HI5.out).mono ?_; rw [HV.out]; rintro e w6 ⟨rfl, hb6⟩)
            | (go_at_call 43; refine (sOrder _ _ l _ _ HN.out HG.out HIr.out).mono ?_; rw [HP.out]; rintro e w5 ⟨rfl, hb5⟩; have HI5 := Lib.hid (HIr.out.below rfl hb5); have c5 := keepC hb5 (World.block_lt_of_cell? wr _ c4) c4))
          go_roundw
          case rel => exact ⟨m + 1, by omega, by go_num, by rw [E1.out], HBL.out.trans ((hb5.trans (hb6.mono hb5.size)).mono HBL.out.size)⟩
          case measure => simp [intOf]; omega
        · have E1 := Lib.hid (HZ.out hvs)
          have hne : ((A : Int) == (s : Int)) = false := by
            have : (A : Int) ≠ (s : Int) := by omega
            simpa using this
          clear HY HZ HOR HORS
          go_wp2_with (first
            | (go_at_call 31; refine (sKer _ _ l _ _ (m : Int) HN.out hm HI5.out).mono ?_; rw [HV.out]; rintro e w6 ⟨rfl, hb6⟩)
            | (go_at_call 43; refine (sOrder _ _ l _ _ HN.out HG.out HIr.out).mono ?_; rw [HP.out]; rintro e w5 ⟨rfl, hb5⟩; have HI5 := Lib.hid (HIr.out.below rfl hb5); have c5 := keepC hb5 (World.block_lt_of_cell? wr _ c4) c4))
          go_roundw
          case rel => exact ⟨m + 1, by omega, by go_num, by rw [E1.out], HBL.out.trans ((hb5.trans (hb6.mono hb5.size)).mono HBL.out.size)⟩
          case measure => simp [intOf]; omega
      · obtain rfl : m = P := by omega
        go_wp2_with (go_at_call 43; refine (sOrder _ _ l _ _ HN.out HG.out HIr.out).mono ?_; rw [HP.out]; rintro e w5 ⟨rfl, hb5⟩)
        go_ret
        exact ⟨rfl, HB.out.trans ((T4.out.trans (hb5.mono T4.out.size)).mono (by simp))⟩
end Go.Proofs.YthlpjiibjlaebaaGreatDoor
