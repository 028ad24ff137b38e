/- The document's reading of chapter 7: values of characters, kernels, annihilators. -/
import Derived.Test.YticgoodmfjjggaaDoorChaMath
import Derived.Test.YticgoodmfjjggaaDoorSubMath
import Derived.Test.YticgoodmfjjggaaDoorDilSpec
import Derived.Test.YticgoodmfjjggaaDoorGrpSpec5
namespace Go.Proofs.YticgoodmfjjggaaDoor
open Go.RowKit
set_option maxRecDepth 1000000
theorem expE_grp {l : List Int} (hg : grpB l = true) : expE l = expN l := by unfold expE expN; rw [if_pos hg]
theorem expN_le {l : List Int} (hg : grpB l = true) : 1 ≤ expN l ∧ expN l ≤ 24 := by
  have hO := ords_grp hg
  have h2 := (lcmK_bnd hO _ (Nat.le_refl _)).2
  rw [PK_full] at h2
  have h3 := hO.prod
  have h4 : expN l ≤ prodI l := h2
  exact ⟨expN_pos hO, by omega⟩
theorem prod3 {a b q : Int} (a0 : 0 ≤ a) (a1 : a ≤ 23) (b0 : 0 ≤ b) (b1 : b ≤ 23) (q0 : 0 ≤ q) (q1 : q ≤ 24) : 0 ≤ a * b ∧ a * b ≤ 529 ∧ 0 ≤ a * b * q ∧ a * b * q ≤ 12696 := by
  have h1 : 0 ≤ a * b := Int.mul_nonneg a0 b0
  have h2 : a * b ≤ 23 * 23 := Int.mul_le_mul a1 b1 b0 (by decide)
  have h3 : 0 ≤ a * b * q := Int.mul_nonneg h1 q0
  have h4 : a * b * q ≤ 529 * 24 := Int.mul_le_mul (by omega) q1 q0 (by decide)
  omega
theorem chK_bnd {l : List Int} (hg : grpB l = true) (k x : Int) : ∀ j : Nat, j ≤ l.length → 0 ≤ chK l k x j ∧ chK l k x j ≤ 12696 * (j : Int)
  | 0, _ => by simp [chK]
  | j + 1, hj => by
    have ih := chK_bnd hg k x j (by omega)
    have d1 := dig_bnd hg k (k := j) (by omega)
    have d2 := dig_bnd hg x (k := j) (by omega)
    have o1 := ord_at hg (k := j) (by omega)
    obtain ⟨e1, e2⟩ := exp_quo (ords_grp hg) (j := j) (by omega)
    have e3 := expN_le hg
    have q1 : expN l / l.getD j 0 ≤ 24 := Int.le_trans (Int.ediv_le_self _ (by omega)) e3.2
    have h := prod3 d1.1 (by omega) d2.1 (by omega) (show 0 ≤ expN l / l.getD j 0 by omega) q1
    unfold chK
    omega
set_option maxHeartbeats 4000000 in
theorem sVal7 (w : World) (a : Option Addr) (l : List Int) (n cap : Nat) (k x : Int) (hk0 : 0 ≤ k) (hk : k ≤ 23) (hx0 : 0 ≤ x) (hx : x ≤ 23) (hn : n = l.length) (hm : n ≤ 9223372036854775807) (hg : grpB l = true) (hi : Ints w a l) :
    Calls Tryd.prog 21 #[.agg #[.slice a n cap], .int .i64 k, .int .i64 x] w fun e w' => e = .returned (.int .i64 (chN l k x)) ∧ Below w.heap.size w w' := by
  have HI0 := Lib.hid hi
  have HI := Lib.hid (ints_alloc hi (.cells #[.slice a n cap] 27))
  have HN := Lib.hid hn
  have C1 := newC w (.slice a n cap) 27 (n := w.heap.size) rfl
  have HB := Lib.hid (Joins.below_alloc1 w (.cells #[.slice a n cap] 27))
  have T0 := Lib.hid (Below.refl (w.alloc (.cells #[.slice a n cap] 27)).heap.size (w.alloc (.cells #[.slice a n cap] 27)))
  clear hi hn
  have HG := Lib.hid hg
  have HX := Lib.hid (And.intro hx0 hx)
  have HK := Lib.hid (And.intro hk0 hk)
  have hn3 : n ≤ 3 := by rw [HN.out]; exact (grpB_true hg).1
  obtain ⟨e, hE⟩ : ∃ e, expN l = e := ⟨_, rfl⟩
  have HEE : Hid (expE l = e) := Lib.hid (by rw [expE_grp hg, hE])
  have HEN := Lib.hid hE
  have he := expN_le hg
  rw [hE] at he
  clear hg hx0 hx hk0 hk hE
  go_enter Tryd.func21, Tryd.ntmps21
  go_wp2_with (go_at_call 19; refine (sExp _ _ l _ _ HN.out hm (HI.out.below rfl T0.out)).mono ?_; rw [HEE.out]; rintro e1 w1 ⟨rfl, hb1⟩; have T1 := Lib.hid (T0.out.trans (hb1.mono T0.out.size)); have c1 := keepC T1.out (by simp) C1; clear hb1)
  go_loopw [1, 2, 8, 9] (fun u v z i wr => ∃ j : Nat, j ≤ n ∧ i = .int .i64 j ∧ u = .int .i64 (k / PK l j) ∧ v = .int .i64 (x / PK l j) ∧ z = .int .i64 (chK l k x j) ∧ Below (w.heap.size + 1) (w.alloc (.cells #[.slice a n cap] 27)) wr) (fun _ _ _ i _ => n - (intOf i).toNat)
  case atStart => exact ⟨0, by omega, rfl, by rw [PK_zero, Int.ediv_one], by rw [PK_zero, Int.ediv_one], rfl, by have := T1.out; simpa using this⟩
  case round =>
    obtain ⟨j, hj, rfl, rfl, rfl, rfl, hbel⟩ := hrel
    have c2 := keepC hbel (by simp) C1
    by_cases hlt : j < n
    · have hjl : j < l.length := by rw [← HN.out]; exact hlt
      rcases HI0.out with h0 | ⟨b, off, h1, hbl, hc⟩
      · rw [h0] at hjl; simp at hjl
      · subst h1
        have r1 : wr.cell? ⟨b, off + j, none⟩ = some (.int .i64 (l.getD j 0)) := keepC hbel (by simp; omega) (keepC (Joins.below_alloc1 w _) (by simpa using hbl) (hc j hjl))
        obtain ⟨p1, p2⟩ := PK_grp HG.out j (by omega)
        obtain ⟨o1, o2⟩ := ord_at HG.out hjl
        obtain ⟨x1, x2⟩ := quo_bnd HX.out.1 p1
        obtain ⟨k1, k2⟩ := quo_bnd HK.out.1 p1
        have x3 := Int.le_trans x2 HX.out.2
        have k3 := Int.le_trans k2 HK.out.2
        have QX := Lib.hid (quo_step l x j hjl (by omega))
        have QK := Lib.hid (quo_step l k j hjl (by omega))
        obtain ⟨z1, z2⟩ := chK_bnd HG.out k x j (by omega)
        have HV : Hid (chK l k x (j + 1) = chK l k x j + k / PK l j % l.getD j 0 * (x / PK l j % l.getD j 0) * (e / l.getD j 0)) := Lib.hid (by rw [← HEN.out]; rfl)
        have HBL := Lib.hid hbel
        obtain ⟨q1, q2⟩ := exp_quo (ords_grp HG.out) hjl
        rw [HEN.out] at q1 q2
        clear hc hjl x2 k2 hbel
        generalize chK l k x j = z at *
        generalize x / PK l j = v at *
        generalize k / PK l j = u at *
        generalize l.getD j 0 = c at *
        generalize PK l j = N at *
        have a1 : 0 ≤ u % c := Int.emod_nonneg _ (by omega)
        have a2 : u % c < c := Int.emod_lt_of_pos _ (by omega)
        have a3 : 0 ≤ v % c := Int.emod_nonneg _ (by omega)
        have a4 : v % c < c := Int.emod_lt_of_pos _ (by omega)
        have q3 : e / c ≤ 24 := Int.le_trans (Int.ediv_le_self _ (by omega)) he.2
        have q4 : 0 ≤ e / c := by omega
        obtain ⟨m1, m2, m3, m4⟩ := prod3 a1 (by omega) a3 (by omega) q4 q3
        have c0 : (c == 0) = false := by simp; omega
        have c3 : c ≠ 0 := by omega
        clear q1
        go_wp2
        go_quiet (fail)
        go_wp2
        go_roundw
        case rel => exact ⟨j + 1, by omega, by go_num, by rw [QK.out], by rw [QX.out], by rw [HV.out], HBL.out.trans (Joins.below_draws _ _ _)⟩
        case measure => simp [intOf]; omega
    · obtain rfl : j = n := by omega
      have HBL := Lib.hid hbel
      have HFIN : Hid (chK l k x j % e = chN l k x) := Lib.hid (by unfold chN; rw [HEN.out, HN.out])
      obtain ⟨z1, z2⟩ := chK_bnd HG.out k x j (by rw [HN.out]; exact Nat.le_refl _)
      have e0 : (e == 0) = false := by simp; omega
      have e3 : e ≠ 0 := by omega
      generalize chK l k x j = z at *
      clear hbel
      go_wp2
      go_ret
      exact ⟨by rw [← HFIN.out]; rfl, HB.out.trans (HBL.out.mono (by omega))⟩
def valE (l : List Int) (k x : Int) : Int := if isE l k = true ∧ isE l x = true then chN l k x else -1
theorem isE_23 {l : List Int} {x : Int} (h : isE l x = true) : grpB l = true ∧ 0 ≤ x ∧ x ≤ 23 ∧ x < prodI l := by
  obtain ⟨hg, h1, h2, h3⟩ := isE_true h
  exact ⟨hg, h1, h3, h2⟩
/-- The elements, of the first m, at which a character is 0. -/
def kerK (l : List Int) (k m : Nat) : Nat := orF (fun x : Nat => (x : Int)) ((List.range m).filter fun x => chN l (k : Int) (x : Int) == 0)
theorem kerK_yes {l : List Int} {k m : Nat} (h : chN l (k : Int) (m : Int) = 0) : kerK l k (m + 1) = kerK l k m ||| 2 ^ m := by
  unfold kerK
  rw [List.range_succ, List.filter_append]
  have : [m].filter (fun x : Nat => chN l (k : Int) (x : Int) == 0) = [m] := by simp [h]
  rw [this, orF_snoc, Int.toNat_natCast]
theorem kerK_no {l : List Int} {k m : Nat} (h : chN l (k : Int) (m : Int) ≠ 0) : kerK l k (m + 1) = kerK l k m := by
  unfold kerK
  rw [List.range_succ, List.filter_append]
  have : [m].filter (fun x : Nat => chN l (k : Int) (x : Int) == 0) = [] := by simp [h]
  rw [this, List.append_nil]
theorem kerK_lt (l : List Int) (k m : Nat) : kerK l k m < 2 ^ m := by
  unfold kerK
  refine orF_lt _ _ m fun x hx => ?_
  rw [List.mem_filter, List.mem_range] at hx
  rw [Int.toNat_natCast]
  exact hx.1
theorem kerK_lt24 (l : List Int) (k : Nat) {m : Nat} (hm : m ≤ 24) : kerK l k m < 2 ^ 24 := Nat.lt_of_lt_of_le (kerK_lt l k m) (Nat.pow_le_pow_right (by decide) hm)
theorem kerK_bit (l : List Int) (k m x : Nat) : (kerK l k m).testBit x = true ↔ x < m ∧ chN l (k : Int) (x : Int) = 0 := by
  unfold kerK
  rw [orF_bit]
  constructor
  · rintro ⟨y, hy, rfl⟩
    rw [List.mem_filter, List.mem_range, beq_iff_eq] at hy
    rw [Int.toNat_natCast]
    exact hy
  · rintro ⟨h1, h2⟩
    exact ⟨x, by rw [List.mem_filter, List.mem_range, beq_iff_eq]; exact ⟨h1, h2⟩, Int.toNat_natCast x⟩
def kerE (l : List Int) (k : Int) : Int := if isE l k = true then ((kerK l k.toNat (prodI l).toNat : Nat) : Int) else -1
/-- Those of the first m elements whose characters are 0 on all of h. -/
def annM (l : List Int) (h m : Nat) : Nat := orF (fun x : Nat => (x : Int)) ((List.range m).filter fun k => (bitsN h).all fun x => chN l (k : Int) (x : Int) == 0)
theorem ann_cond {l : List Int} (hg : grpB l = true) {h k : Nat} (hh : h < 2 ^ (prodI l).toNat) : ((bitsN h).all fun x : Nat => chN l (k : Int) (x : Int) == 0) = decide (kerK l k (prodI l).toNat &&& h = h) := by
  have h24 := grp_pow hg hh
  by_cases e : kerK l k (prodI l).toNat &&& h = h
  · rw [decide_eq_true e, List.all_eq_true]
    intro x hx
    have hb := (mem_bits h24 x).1 hx
    rw [← e, Nat.testBit_and, Bool.and_eq_true] at hb
    simpa using ((kerK_bit l k _ x).1 hb.1).2
  · rw [decide_eq_false e, List.all_eq_false]
    rw [← List.all_eq_false, ← Bool.not_eq_true]
    intro hall
    rw [List.all_eq_true] at hall
    refine e (Nat.eq_of_testBit_eq fun x => ?_)
    rw [Nat.testBit_and]
    cases hb : h.testBit x with
    | false => simp
    | true =>
      have h1 := hall x ((mem_bits h24 x).2 hb)
      have h2 := el_of hg hh hb
      rw [(kerK_bit l k _ x).2 ⟨by omega, by simpa using h1⟩]
      rfl
theorem annM_yes {l : List Int} (hg : grpB l = true) {h m : Nat} (hh : h < 2 ^ (prodI l).toNat) (e : kerK l m (prodI l).toNat &&& h = h) : annM l h (m + 1) = annM l h m ||| 2 ^ m := by
  unfold annM
  rw [List.range_succ, List.filter_append]
  have : [m].filter (fun k : Nat => (bitsN h).all fun x : Nat => chN l (k : Int) (x : Int) == 0) = [m] := by
    rw [List.filter_cons, ann_cond hg hh, if_pos (by simpa using e)]
    rfl
  rw [this, orF_snoc, Int.toNat_natCast]
theorem annM_no {l : List Int} (hg : grpB l = true) {h m : Nat} (hh : h < 2 ^ (prodI l).toNat) (e : kerK l m (prodI l).toNat &&& h ≠ h) : annM l h (m + 1) = annM l h m := by
  unfold annM
  rw [List.range_succ, List.filter_append]
  have : [m].filter (fun k : Nat => (bitsN h).all fun x : Nat => chN l (k : Int) (x : Int) == 0) = [] := by
    rw [List.filter_cons, ann_cond hg hh, if_neg (by simpa using e)]
    rfl
  rw [this, List.append_nil]
theorem annM_lt24 (l : List Int) (h : Nat) {m : Nat} (hm : m ≤ 24) : annM l h m < 2 ^ 24 := by
  unfold annM
  refine orF_lt _ _ 24 fun x hx => ?_
  rw [List.mem_filter, List.mem_range] at hx
  rw [Int.toNat_natCast]
  omega
def annE (l : List Int) (h : Int) : Int := if isS l h = true then ((annM l h.toNat (prodI l).toNat : Nat) : Int) else -1
end Go.Proofs.YticgoodmfjjggaaDoor
