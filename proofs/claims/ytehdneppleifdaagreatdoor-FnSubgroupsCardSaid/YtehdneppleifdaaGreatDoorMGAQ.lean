/- Merged: SumI Dil ShiftSet SetDil SumJ SumK GenI. -/
import Derived.Test.YtehdneppleifdaaGreatDoorMGAP
import Derived.Test.YtehdneppleifdaaGreatDoorShiftN
import Derived.Test.YtehdneppleifdaaGreatDoorSumSpec
import Derived.Test.YtehdneppleifdaaGreatDoorDilSpec
import Derived.Test.YtehdneppleifdaaGreatDoorMGAO
namespace Go.Proofs.YtehdneppleifdaaGreatDoor
open Go.RowKit Go.Shelf
attribute [local go_sem] Oper.semAt_some
set_option maxRecDepth 1000000
/-- The set s moved by x, by the three places. -/
def shG (p q r : Int) (s x : Nat) : Nat := orF (shF p q r ((x : Int) % p) ((x : Int) / p % q) ((x : Int) / p / q % r)) (bitsN s)
theorem shG_lt {p q r : Int} (h : Tri p q r) {s x : Nat} (hs : s < 2 ^ (p * q * r).toNat) (hx : (x : Int) < p * q * r) : shG p q r s x < 2 ^ (p * q * r).toNat := by
  have hp : ((p.toNat : Nat) : Int) = p := Int.toNat_of_nonneg (by have := h.p1; omega)
  have hq : ((q.toNat : Nat) : Int) = q := Int.toNat_of_nonneg (by have := h.q1; omega)
  have hr : ((r.toNat : Nat) : Int) = r := Int.toNat_of_nonneg (by have := h.r1; omega)
  obtain ⟨h1, h2, h3, h4, h5, h6, h7, h8, h9, h10⟩ := h
  have e : p.toNat * q.toNat * r.toNat = (p * q * r).toNat := by
    have : ((p.toNat * q.toNat * r.toNat : Nat) : Int) = p * q * r := by rw [Int.natCast_mul, Int.natCast_mul, hp, hq, hr]
    omega
  have g1 := shN_orF (p := p.toNat) (q := q.toNat) (r := r.toNat) (x := x) (s := s) (by omega) (by omega) (by omega) (by omega) (by omega) (by rw [e]; exact hs)
  have g2 := (shN_bit (p := p.toNat) (q := q.toNat) (r := r.toNat) (x := x) (s := s) (by omega) (by omega) (by omega) (by omega) (by omega) (by rw [e]; exact hs)).1
  rw [hp, hq, hr] at g1
  rw [g1, e] at g2
  exact g2
theorem iShG (w : World) (p q r : Int) (s x : Nat) (h : Tri p q r) (hs : s < 2 ^ (p * q * r).toNat) (hx : (x : Int) < p * q * r) :
    Calls Tryz.prog 55 #[tV p q r, .int .u64 s, .int .i64 x] w fun e w' => e = .returned (.int .u64 (shG p q r s x : Nat)) ∧ Below w.heap.size w w' := iShiftN w p q r s x h hs hx
theorem tri_pow {p q r : Int} (h : Tri p q r) {s : Nat} (hs : s < 2 ^ (p * q * r).toNat) : s < 2 ^ 24 :=
  Nat.lt_of_lt_of_le hs (Nat.pow_le_pow_right (by decide) (by have := h.pqr2; omega))
theorem tri_elt {p q r : Int} (h : Tri p q r) {s x : Nat} (hs : s < 2 ^ (p * q * r).toNat) (hx : s.testBit x = true) : (x : Int) < p * q * r := by
  have h1 := h.pqr1
  have : x < (p * q * r).toNat := by
    rcases Nat.lt_or_ge x (p * q * r).toNat with h2 | h2
    · exact h2
    · rw [bit_no hs x h2] at hx; cases hx
  omega
theorem orU (a b : Nat) (ha : a < 16777216) (hb : b < 16777216) : bits .or .u64 (a : Int) (b : Int) = ((a ||| b : Nat) : Int) := bits_or_u64_nat a b (by omega) (by omega)
end Go.Proofs.YtehdneppleifdaaGreatDoor

namespace Go.Proofs.YtehdneppleifdaaGreatDoor
open Go.RowKit Go.Shelf
attribute [local go_sem] Oper.semAt_some
set_option maxRecDepth 1000000
/-- The multiple of an element, by its three places. -/
def dilF (p q r k : Int) (y : Nat) : Int := (y : Int) % p * k % p + p * ((y : Int) / p % q * k % q) + p * q * ((y : Int) / p / q % r * k % r)
theorem dilF_bnd {p q r k : Int} (h : Tri p q r) (y : Nat) : 0 ≤ dilF p q r k y ∧ dilF p q r k y ≤ 23 := by
  have a := emod_b (a := (y : Int) % p * k) h.p1
  have b := emod_b (a := (y : Int) / p % q * k) h.q1
  have c := emod_b (a := (y : Int) / p / q % r * k) h.r1
  have h3 := h.pqr2
  have hp := h.p1
  have hq := h.q1
  have hpq := h.pq1
  unfold dilF
  generalize (y : Int) % p * k % p = A at *
  generalize (y : Int) / p % q * k % q = B at *
  generalize (y : Int) / p / q % r * k % r = C at *
  have m1 : 0 ≤ p * B := Int.mul_nonneg (by omega) b.1
  have m2 : p * B ≤ p * (q - 1) := Int.mul_le_mul_of_nonneg_left (by omega) (by omega)
  have m3 : 0 ≤ p * q * C := Int.mul_nonneg (by omega) c.1
  have m4 : p * q * C ≤ p * q * (r - 1) := Int.mul_le_mul_of_nonneg_left (by omega) (by omega)
  rw [Int.mul_sub, Int.mul_one] at m2 m4
  omega
theorem orF_dil_lt {p q r k : Int} (h : Tri p q r) (L : List Nat) : orF (dilF p q r k) L < 16777216 :=
  orF_lt _ _ 24 (fun x _ => by have := dilF_bnd (k := k) h x; omega)
end Go.Proofs.YtehdneppleifdaaGreatDoor

namespace Go.Proofs.YtehdneppleifdaaGreatDoor
open Go.RowKit
set_option maxRecDepth 1000000
theorem sh_tri {l : List Int} (h : grpB l = true) (x : Int) (L : List Nat) :
    orF (fun y => addN l (y : Int) x) L = orF (shF (l.getD 0 1) (l.getD 1 1) (l.getD 2 1) (x % l.getD 0 1) (x / l.getD 0 1 % l.getD 1 1) (x / l.getD 0 1 / l.getD 1 1 % l.getD 2 1)) L :=
  orF_congr _ _ L (fun y _ => by
    have := (tri_grp h).p1
    rw [add_tri (grpB_true h).1 (y : Int) x (by omega)]; rfl)
end Go.Proofs.YtehdneppleifdaaGreatDoor

namespace Go.Proofs.YtehdneppleifdaaGreatDoor
open Go.RowKit
set_option maxRecDepth 1000000
theorem dl_tri {l : List Int} (h : grpB l = true) (k : Int) (L : List Nat) :
    orF (fun y => mulN l (y : Int) k) L = orF (dilF (l.getD 0 1) (l.getD 1 1) (l.getD 2 1) k) L :=
  orF_congr _ _ L (fun y _ => by
    have := (tri_grp h).p1
    rw [mul_tri (grpB_true h).1 (y : Int) k (by omega)]; rfl)
end Go.Proofs.YtehdneppleifdaaGreatDoor

namespace Go.Proofs.YtehdneppleifdaaGreatDoor
open Go.RowKit
set_option maxRecDepth 1000000
/-- What setsIn answers. -/
def SetsInPost (l : List Int) (s t : Int) (w : World) (e : Ending) (w' : World) : Prop :=
  ∃ p q r u v, e = .returned (.tuple #[tV p q r, .int .u64 u, .int .u64 v, .bool (two l s t)]) ∧ (two l s t = true → p = l.getD 0 1 ∧ q = l.getD 1 1 ∧ r = l.getD 2 1 ∧ u = s ∧ v = t) ∧ Below w.heap.size w w'
end Go.Proofs.YtehdneppleifdaaGreatDoor

namespace Go.Proofs.YtehdneppleifdaaGreatDoor
open Go.RowKit
set_option maxRecDepth 1000000
/-- Both are sets: what is known of them. -/
theorem two_true {l : List Int} {s t : Int} (h : two l s t = true) : grpB l = true ∧ ∃ a b : Nat, s = (a : Int) ∧ t = (b : Int) ∧ a < 2 ^ (prodI l).toNat ∧ b < 2 ^ (prodI l).toNat := by
  unfold two at h
  rw [Bool.and_eq_true] at h
  obtain ⟨hg, a, h1, h2, _⟩ := isS_true h.1
  obtain ⟨_, b, h3, h4, _⟩ := isS_true h.2
  exact ⟨hg, a, b, h1, h3, h2, h4⟩
theorem shG_mov {l : List Int} (hg : grpB l = true) (t x : Nat) : shG (l.getD 0 1) (l.getD 1 1) (l.getD 2 1) t x = movN l t x := (sh_tri hg (x : Int) (bitsN t)).symm
theorem sum_prog {l : List Int} (hg : grpB l = true) {s t : Nat} (hs : s < 2 ^ (prodI l).toNat) (ht : t < 2 ^ (prodI l).toNat) :
    orG (fun x => shG (l.getD 0 1) (l.getD 1 1) (l.getD 2 1) t x) (bitsN s) = sumN l s t := by
  rw [orG_congr _ (fun x => movN l t x) _ (fun x _ => shG_mov hg t x)]
  exact sumN_comm l (grp_pow hg ht) (grp_pow hg hs)
theorem dif_sum (l : List Int) (s t : Int) : sumE l s (ngE l t) = difE l s t := by
  cases ht : isS l t with
  | false =>
    have e : ngE l t = -1 := by unfold ngE; rw [if_neg (by simp [ht])]
    unfold sumE difE two
    rw [e, isS_neg (l := l) (show (-1 : Int) < 0 by decide), ht, Bool.and_false, if_neg (by simp), if_neg (by simp)]
  | true =>
    obtain ⟨hg, t, rfl, htn, _⟩ := isS_true ht
    have e : ngE l (t : Int) = ((ngN l t : Nat) : Int) := by unfold ngE; rw [if_pos ht]; rfl
    unfold sumE difE two
    rw [e, isS_of hg (ngN_lt hg t), ht]; rfl
theorem pow_prog {l : List Int} (hg : grpB l = true) {s : Nat} (hs : s < 2 ^ (prodI l).toNat) (k : Nat) :
    orG (fun x => shG (l.getD 0 1) (l.getD 1 1) (l.getD 2 1) s x) (bitsN (powS l s k)) = powS l s (k + 1) := sum_prog hg (powS_lt hg s k) hs
end Go.Proofs.YtehdneppleifdaaGreatDoor

namespace Go.Proofs.YtehdneppleifdaaGreatDoor
open Go.RowKit Go.Shelf
attribute [local go_sem] Oper.semAt_some
set_option maxRecDepth 1000000
theorem orU' {a b n : Nat} (hn : n ≤ 24) (ha : a < 2 ^ n) (hb : b < 2 ^ n) : bits .or .u64 (a : Int) (b : Int) = ((a ||| b : Nat) : Int) := by
  have h := Nat.pow_le_pow_right (show 0 < 2 by decide) hn
  exact orU a b (Nat.lt_of_lt_of_le ha h) (Nat.lt_of_lt_of_le hb h)
/-- The program's shift of a set, by the group's places. -/
theorem iMov {l : List Int} (hg : grpB l = true) (w : World) (s x : Nat) (hs : s < 2 ^ (prodI l).toNat) (hx : (x : Int) < prodI l) :
    Calls Tryz.prog 55 #[tV (l.getD 0 1) (l.getD 1 1) (l.getD 2 1), .int .u64 s, .int .i64 x] w fun e w' => e = .returned (.int .u64 (movN l s x : Nat)) ∧ Below w.heap.size w w' := by
  have HP := prod_pad (grpB_true hg).1
  have h := iShG w (l.getD 0 1) (l.getD 1 1) (l.getD 2 1) s x (tri_grp hg) (by rw [← HP]; exact hs) (by rw [← HP]; exact hx)
  rw [shG_mov hg] at h
  exact h
set_option maxHeartbeats 4000000 in
theorem iExtend {l : List Int} (hg : grpB l = true) (w : World) (a s x c : Nat) (ha : a < 2 ^ (prodI l).toNat) (hc : IsClo l a s) (hx : (x : Int) < prodI l) (hc2 : IsClo l (a ||| 2 ^ x) c) :
    Calls Tryz.prog 61 #[tV (l.getD 0 1) (l.getD 1 1) (l.getD 2 1), .int .u64 s, .int .i64 x] w fun e w' => e = .returned (.int .u64 (c : Nat)) ∧ Below w.heap.size w w' := by
  obtain ⟨m, m1, m2, m3⟩ := cosK_first hg hc.lt x
  have HM2 := Lib.hid m2
  have HEND := Lib.hid (fun k (h1 : 1 ≤ k) (hk : cosK l s x k = s) => (ext_clo (x := x) hg ha hc h1 hk).one hc2)
  have HIX := Lib.hid (fun k (h1 : 1 ≤ k) (h2 : k ≤ m) => idxK_at hg hc.lt m3 h1 h2)
  have HSH := Lib.hid (fun (W : World) (t : Nat) (ht : t < 2 ^ (prodI l).toNat) => iMov hg W t x ht hx)
  have HN24 : Hid ((prodI l).toNat ≤ 24) := Lib.hid (by have := (ords_grp hg).prod.2; omega)
  have HEX := Lib.hid (fun k => extK_lt hg s x k)
  have HCK := Lib.hid (fun k => cosK_lt hg s x k)
  have HSU := Lib.hid (fun k => cosK_succ hg (grp_pow hg hc.lt) x k)
  have HS := Lib.hid hc.lt
  have HE1 := Lib.hid (extK_one hg hc.lt x)
  have HC1 := Lib.hid (show movN l s x = cosK l s x 1 by rw [← cosK_succ hg (grp_pow hg hc.lt), cosK_zero hg hc.lt])
  obtain ⟨p, EP⟩ : ∃ p, Hid (l.getD 0 1 = p) := ⟨_, Lib.hid rfl⟩
  obtain ⟨q, EQ⟩ : ∃ q, Hid (l.getD 1 1 = q) := ⟨_, Lib.hid rfl⟩
  obtain ⟨r, ER⟩ : ∃ r, Hid (l.getD 2 1 = r) := ⟨_, Lib.hid rfl⟩
  rw [EP.out, EQ.out, ER.out] at HSH
  rw [EP.out, EQ.out, ER.out]
  obtain ⟨F, HF⟩ : ∃ F, Hid (cosK l s x = F) := ⟨_, Lib.hid rfl⟩
  obtain ⟨E, HE⟩ : ∃ E, Hid (extK l s x = E) := ⟨_, Lib.hid rfl⟩
  obtain ⟨X, HX⟩ : ∃ X, Hid (idxK l s x m = X) := ⟨_, Lib.hid rfl⟩
  have HES := Lib.hid (fun k => extK_succ l s x k)
  rw [HF.out] at HM2 HEND HIX HCK HSU HC1 HES
  rw [HE.out] at HEND HEX HE1 HES
  rw [HX.out] at HIX
  clear ha hc hx hc2 m2 m3 hg
  have HAL := Lib.hid (heap_alloc_new w (.cells #[.int .i64 p, .int .i64 q, .int .i64 r] 41))
  go_enter Tryz.func61, Tryz.ntmps61
  go_wp2_with (go_at_call 55; refine (HSH.out _ s HS.out).mono ?_; rw [HC1.out]; rintro e w1 ⟨rfl, hb1⟩)
  go_loopw [7, 8] (fun o c wr => ∃ k : Nat, 1 ≤ k ∧ k ≤ m ∧ o = .int .u64 (E k : Nat) ∧ c = .int .u64 (F k : Nat) ∧ Below (w.alloc (.cells #[.int .i64 p, .int .i64 q, .int .i64 r] 41)).heap.size (w.alloc (.cells #[.int .i64 p, .int .i64 q, .int .i64 r] 41)) wr) (fun _ c _ => m - X (intOf c))
  case atStart => exact ⟨1, Nat.le_refl _, m1, by rw [HE1.out], rfl, hb1⟩
  case round =>
    obtain ⟨k, k1, km, rfl, rfl, hbel⟩ := hrel
    obtain ⟨c0, c1, c2, _, _, _⟩ := trip_cell (keepH hbel (by simp) HAL.out)
    have HBL := Lib.hid hbel
    have HF1 := Lib.hid (HCK.out k)
    have HEk := Lib.hid (HEX.out k)
    have HOR := Lib.hid (orU' HN24.out HEk.out HF1.out)
    have HIk := Lib.hid (HIX.out k k1 km)
    have HE := Lib.hid (HEND.out k k1)
    have HSk := Lib.hid (HSU.out k)
    have HEk1 := Lib.hid (HES.out k)
    obtain ⟨u, hu⟩ : ∃ u, F k = u := ⟨_, rfl⟩
    obtain ⟨v, hv⟩ : ∃ v, E k = v := ⟨_, rfl⟩
    have HU := Lib.hid hu
    rw [hu] at HF1 HOR HIk HE HSk HEk1
    rw [hv] at HEk HOR HE HEk1
    rw [hu, hv]
    by_cases he : u = s
    · have hc := HE.out he
      have HCC := Lib.hid hc
      clear hbel HE HSU HES HEX HCK HIX HEND hc hu hv
      subst he
      go_wp2
      go_ret
      exact ⟨by first | rfl | (rw [HCC.out]; rfl), (Joins.below_alloc1 w _).trans (HBL.out.mono (by simp))⟩
    · have hne : ((u : Int) == (s : Int)) = false := by
        have : (u : Int) ≠ (s : Int) := by omega
        simpa using this
      have hlt : k < m := by
        rcases Nat.lt_or_ge k m with h | h
        · exact h
        · obtain rfl : k = m := by omega
          exact absurd (hu.symm.trans HM2.out) he
      have HI1 := Lib.hid (HIX.out (k + 1) (by omega) (by omega))
      have HORS := HOR.out
      clear hbel HE hu hv he
      go_wp2_with (go_at_call 55; refine (HSH.out _ u HF1.out).mono ?_; rw [HSk.out]; rintro e w5 ⟨rfl, hb5⟩)
      go_roundw
      case rel => exact ⟨k + 1, by omega, by omega, by rw [HEk1.out], rfl, HBL.out.trans (hb5.mono HBL.out.size)⟩
      case measure =>
        have h1 := HI1.out
        have h2 := HIk.out
        simp only [intOf]
        omega
set_option maxHeartbeats 1000000 in
theorem iNegEl {l : List Int} (hg : grpB l = true) (w : World) (x u : Nat) (hx : (x : Int) < prodI l) (hu : negN l (x : Int) = (u : Int)) :
    Calls Tryz.prog 73 #[tV (l.getD 0 1) (l.getD 1 1) (l.getD 2 1), .int .i64 x] w fun e w' => e = .returned (.int .i64 (u : Nat)) ∧ Below w.heap.size w w' := by
  have HT := Lib.hid (tri_grp hg)
  have hP := (ords_grp hg).prod.2
  have hx23 : (x : Int) ≤ 23 := by omega
  have HM := Lib.hid ((mul_tri (grpB_true hg).1 (x : Int) (-1) (by have := (tri_grp hg).p1; omega)).symm.trans hu)
  obtain ⟨p, EP⟩ : ∃ p, Hid (l.getD 0 1 = p) := ⟨_, Lib.hid rfl⟩
  obtain ⟨q, EQ⟩ : ∃ q, Hid (l.getD 1 1 = q) := ⟨_, Lib.hid rfl⟩
  obtain ⟨r, ER⟩ : ∃ r, Hid (l.getD 2 1 = r) := ⟨_, Lib.hid rfl⟩
  rw [EP.out, EQ.out, ER.out] at HT HM
  rw [EP.out, EQ.out, ER.out]
  have h1 := HT.out.p1
  have h3 := HT.out.q1
  have h5 := HT.out.r1
  have HM2 : Hid (-((x : Int) % p) % p + p * (-((x : Int) / p % q) % q) + p * q * (-((x : Int) / p / q % r) % r) = (u : Int)) := Lib.hid (by
    have := HM.out
    simpa only [Int.mul_neg, Int.mul_one] using this)
  clear hu hx hP
  have HAL := Lib.hid (heap_alloc_new w (.cells #[.int .i64 p, .int .i64 q, .int .i64 r] 41))
  have T0 := Lib.hid (Below.refl (w.alloc (.cells #[.int .i64 p, .int .i64 q, .int .i64 r] 41)).heap.size (w.alloc (.cells #[.int .i64 p, .int .i64 q, .int .i64 r] 41)))
  obtain ⟨c0, c1, c2, _, _, _⟩ := trip_cell (keepH T0.out (by simp) HAL.out)
  go_enter Tryz.func73, Tryz.ntmps73
  go_wp2
  go_region_held3 (fun W => W.cell? ⟨w.heap.size, 0, none⟩ = some (.int .i64 p) ∧ W.cell? ⟨w.heap.size, 1, none⟩ = some (.int .i64 q) ∧ W.cell? ⟨w.heap.size, 2, none⟩ = some (.int .i64 r)) (first | exact ⟨f0, f1, f2⟩ | exact ⟨e0, e1, e2⟩ | exact ⟨d0, d1, d2⟩ | exact ⟨c0, c1, c2⟩)
    (first
    | (go_at_call 81; refine (iElement _ p q r _ _ _ HT.out (emod_b h1) (emod_b h3) (emod_b h5)).mono ?_; first | rw [HM.out] | rw [HM2.out]; rintro e w5 ⟨rfl, hb5⟩; have T5 := Lib.hid (T4.out.trans (hb5.mono T4.out.size)); obtain ⟨f0, f1, f2, _, _, _⟩ := trip_cell (keepH T5.out (by simp) HAL.out))
    | (go_at_call 82; refine (iMulti _ p q r _ _ _ (-1) HT.out (emod_b h1) (emod_b h3) (emod_b h5) (by decide) (by decide)).mono ?_; rintro e w4 ⟨rfl, hb4⟩; have T4 := Lib.hid (T3.out.trans (hb4.mono T3.out.size)); obtain ⟨e0, e1, e2, _, _, _⟩ := trip_cell (keepH T4.out (by simp) HAL.out))
    | (go_at_call 75; refine (iPlaces _ p q r x HT.out (by omega) hx23).mono ?_; rintro e w3 ⟨rfl, hb3⟩; have T3 := Lib.hid (T0.out.drew.trans (hb3.mono T0.out.drew.size)); obtain ⟨d0, d1, d2, _, _, _⟩ := trip_cell (keepH T3.out (by simp) HAL.out)))
  all_goals go_wp2
  go_ret
  exact ⟨rfl, (Joins.below_alloc1 w _).trans (T5.out.mono (by simp))⟩
end Go.Proofs.YtehdneppleifdaaGreatDoor
