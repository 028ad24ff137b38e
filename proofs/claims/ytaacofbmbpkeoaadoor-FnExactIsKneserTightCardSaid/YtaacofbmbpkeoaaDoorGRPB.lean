/- Merged: GrpSpec3 GrpSpec4 GrpSpec5 GrpSpec6. -/
import Derived.Test.YtaacofbmbpkeoaaDoorGRPA
import Derived.Deep.QuietTactic
namespace Go.Proofs.YtaacofbmbpkeoaaDoor
open Go.RowKit
set_option maxRecDepth 1000000
/-- Whether x is an element. -/
def isE (l : List Int) (x : Int) : Bool := decide (0 ≤ x) && decide (x < ordN l)
theorem isE_true {l : List Int} {x : Int} (h : isE l x = true) : grpB l = true ∧ 0 ≤ x ∧ x < prodI l ∧ x ≤ 23 := by
  simp only [isE, Bool.and_eq_true, decide_eq_true_eq] at h
  cases hg : grpB l with
  | false => rw [ordN_no hg] at h; omega
  | true =>
    rw [ordN_grp hg] at h
    have := (grpB_true hg).2.2
    exact ⟨rfl, h.1, h.2, by omega⟩
/-- The document's sum. -/
def addE (l : List Int) (x y : Int) : Int := if isE l x = true then (if isE l y = true then addN l x y else -1) else -1
end Go.Proofs.YtaacofbmbpkeoaaDoor

namespace Go.Proofs.YtaacofbmbpkeoaaDoor
open Go.RowKit
set_option maxRecDepth 1000000
/-- A place of the negative. -/
def ndig (l : List Int) (x : Int) (k : Nat) : Int := -(x / PK l k % l.getD k 0) % l.getD k 0
theorem ndig_bnd {l : List Int} (h : Ords l) (x : Int) {k : Nat} (hk : k < l.length) : 0 ≤ ndig l x k ∧ ndig l x k < l.getD k 0 := by
  have := h.pos k hk
  exact ⟨Int.emod_nonneg _ (by omega), Int.emod_lt_of_pos _ (by omega)⟩
theorem ndig_neg (l : List Int) (x : Int) : valK l (ndig l x) l.length = negN l x := by
  unfold negN mulN
  apply val_congr
  intro j _
  unfold ndig mulF
  rw [← neg_place, Int.sub_eq_add_neg, Int.add_comm, Int.add_emod_right]; rfl
def negE (l : List Int) (x : Int) : Int := if isE l x = true then negN l x else -1
/-- The document's multiple. -/
def mulE (l : List Int) (x k : Int) : Int := if isE l x = true then (if -100 ≤ k ∧ k ≤ 100 then mulN l x k else -1) else -1
end Go.Proofs.YtaacofbmbpkeoaaDoor

namespace Go.Proofs.YtaacofbmbpkeoaaDoor
open Go.RowKit
set_option maxRecDepth 1000000
theorem sOrd_no (w : World) (a : Option Addr) (l : List Int) (n cap : Nat) (x : Int) (hn : n = l.length) (hm : n ≤ 9223372036854775807) (hi : Ints w a l) (hx : isE l x = false) :
    Calls Tryd.prog 40 #[.agg #[.slice a n cap], .int .i64 x] w fun e w' => e = .returned (.int .i64 0) ∧ Below w.heap.size w w' := by
  have HI := Lib.hid (ints_alloc hi (.cells #[.slice a n cap] 27))
  have HN := Lib.hid hn
  have C1 := newC w (.slice a n cap) 27 (n := w.heap.size) rfl
  have HB := Lib.hid (Joins.below_alloc1 w (.cells #[.slice a n cap] 27))
  have HX : Hid (false = isE l x) := Lib.hid hx.symm
  clear hi hn hx
  go_enter Tryd.func40, Tryd.ntmps40
  go_wp2_with (go_at_call 55; refine (sIs _ _ _ _ _ _ _ HX.out HN.out hm HI.out).mono ?_; rintro e w1 ⟨rfl, hb1⟩; have c1 := keepC hb1 (by simp) C1)
  go_ret
  exact ⟨rfl, HB.out.trans (hb1.mono (by simp))⟩
set_option maxHeartbeats 1000000 in
theorem sOrd_yes (w : World) (a : Option Addr) (l : List Int) (n cap : Nat) (x : Int) (m : Nat) (hn : n = l.length) (hm : n ≤ 9223372036854775807) (hi : Ints w a l) (hx : isE l x = true) (ho : IsOrd l x m) :
    Calls Tryd.prog 40 #[.agg #[.slice a n cap], .int .i64 x] w fun e w' => e = .returned (.int .i64 m) ∧ Below w.heap.size w w' := by
  have HI := Lib.hid (ints_alloc hi (.cells #[.slice a n cap] 27))
  have HN := Lib.hid hn
  have C1 := newC w (.slice a n cap) 27 (n := w.heap.size) rfl
  have HB := Lib.hid (Joins.below_alloc1 w (.cells #[.slice a n cap] 27))
  have T0 := Lib.hid (Below.refl (w.alloc (.cells #[.slice a n cap] 27)).heap.size (w.alloc (.cells #[.slice a n cap] 27)))
  have HX : Hid (true = isE l x) := Lib.hid hx.symm
  have BX := Lib.hid (isE_true hx)
  have OR := Lib.hid (ords_grp BX.out.1)
  have P24 := Lib.hid OR.out.prod
  have HO := Lib.hid ho
  have hm24 := ho.2.1
  clear hi hn hx ho
  go_enter Tryd.func40, Tryd.ntmps40
  go_wp2_with (go_at_call 55; refine (sIs _ _ _ _ _ _ _ HX.out HN.out hm HI.out).mono ?_; rintro e w1 ⟨rfl, hb1⟩; have T1 := Lib.hid (T0.out.trans (hb1.mono T0.out.size)); have c1 := keepC T1.out (by simp) C1)
  go_loopw [5, 6] (fun i z wr => ∃ j : Nat, 1 ≤ j ∧ j ≤ m ∧ i = .int .i64 j ∧ z = .int .i64 (mulN l x j) ∧ Below (w.heap.size + 1) (w.alloc (.cells #[.slice a n cap] 27)) wr) (fun i _ _ => m - (intOf i).toNat)
  case atStart => exact ⟨1, Nat.le_refl _, HO.out.1, rfl, by rw [show ((1 : Nat) : Int) = 1 from rfl, mulN_one OR.out BX.out.2.1 BX.out.2.2.1], by simpa using T1.out⟩
  case round =>
    obtain ⟨j, hj1, hj, rfl, rfl, hbel⟩ := hrel
    have c4 := keepC hbel (by simp) C1
    have hx0 := BX.out.2.1
    have hx1 := BX.out.2.2.2
    by_cases hlt : j < m
    · have hz : (mulN l x j != 0) = true := by simpa using HO.out.2.2.2 j hj1 hlt
      have MB := Lib.hid (mulN_bnd OR.out x j)
      have HS := Lib.hid (mulN_succ OR.out x j)
      have hz0 := MB.out.1
      have hz1 : mulN l x j ≤ 23 := by have := MB.out.2; have := P24.out.2; omega
      generalize mulN l x j = z at *
      go_wp2_with (go_at_call 56; refine (sAdd _ _ _ _ _ _ _ hz0 hz1 hx0 hx1 HN.out BX.out.1 (HI.out.below (by simp) hbel)).mono ?_; rintro e w5 ⟨rfl, hb5⟩)
      go_roundw
      case rel => exact ⟨j + 1, by omega, by omega, by go_num, by rw [HS.out]; rfl, hbel.trans (hb5.mono (by have := hbel.size; simpa using this))⟩
      case measure => simp [intOf]; omega
    · obtain rfl : j = m := by omega
      have hz : (mulN l x j != 0) = false := by simpa using HO.out.2.2.1
      generalize mulN l x j = z at *
      go_wp2
      go_ret
      exact ⟨rfl, HB.out.trans (hbel.mono (by omega))⟩
theorem lcm_yes {E c q : Int} (hE : 1 ≤ E) (hc : 1 ≤ c) (hd : E ∣ q) (hq : 1 ≤ q) (hL : q ≤ (E.lcm c : Nat)) (h : q % c = 0) : q = (E.lcm c : Nat) := by
  obtain ⟨e, rfl⟩ : ∃ n : Nat, E = n := ⟨E.toNat, by omega⟩
  obtain ⟨d, rfl⟩ : ∃ n : Nat, c = n := ⟨c.toNat, by omega⟩
  obtain ⟨p, rfl⟩ : ∃ n : Nat, q = n := ⟨q.toNat, by omega⟩
  have h1 : e ∣ p := Int.natCast_dvd_natCast.1 hd
  have h2 : d ∣ p := Int.natCast_dvd_natCast.1 (Int.dvd_of_emod_eq_zero h)
  have h3 : Nat.lcm e d ∣ p := Nat.lcm_dvd h1 h2
  have h4 := Nat.le_of_dvd (by omega) h3
  have h5 : ((e : Int).lcm (d : Int)) = Nat.lcm e d := rfl
  rw [h5] at hL ⊢
  omega
theorem lcm_no {E c q : Int} (hE : 1 ≤ E) (hc : 1 ≤ c) (hd : E ∣ q) (hq : 1 ≤ q) (hL : q ≤ (E.lcm c : Nat)) (h : q % c ≠ 0) : E ∣ q + E ∧ q + E ≤ (E.lcm c : Nat) := by
  refine ⟨Int.dvd_add hd (Int.dvd_refl _), ?_⟩
  obtain ⟨e, rfl⟩ : ∃ n : Nat, E = n := ⟨E.toNat, by omega⟩
  obtain ⟨d, rfl⟩ : ∃ n : Nat, c = n := ⟨c.toNat, by omega⟩
  obtain ⟨p, rfl⟩ : ∃ n : Nat, q = n := ⟨q.toNat, by omega⟩
  have h5 : ((e : Int).lcm (d : Int)) = Nat.lcm e d := rfl
  rw [h5] at hL ⊢
  have h1 : e ∣ p := Int.natCast_dvd_natCast.1 hd
  have h6 : p ≠ Nat.lcm e d := by
    intro e1
    have : d ∣ p := by rw [e1]; exact Nat.dvd_lcm_right _ _
    exact h (Int.emod_eq_zero_of_dvd (Int.natCast_dvd_natCast.2 this))
  have h7 : e ∣ Nat.lcm e d - p := Nat.dvd_sub (Nat.dvd_lcm_left _ _) h1
  have h8 := Nat.le_of_dvd (by omega) h7
  omega
def expE (l : List Int) : Int := if grpB l = true then lcmK l l.length else 0
end Go.Proofs.YtaacofbmbpkeoaaDoor

namespace Go.Proofs.YtaacofbmbpkeoaaDoor
open Go.RowKit
set_option maxRecDepth 1000000
theorem below_grown {w w' : World} (h : Below w.heap.size w w') (row : Option Nat) : w.grownBy w' row := ⟨h.os, h.tape, h.output, h.size, fun k hk _ => h.block k hk⟩
theorem owns_below {w w' : World} {B n : Nat} {e : TypeId} {v : Value} {xs : List Value} (h : w.ownsRow B e 1 v n xs) (hb : Below w.heap.size w w') : w'.ownsRow B e 1 v n xs :=
  h.kept (below_grown hb none) (by cases hv : v.ownBlock with
    | none => exact .inl rfl
    | some g => exact .inr (by simp))
/-- The places of an element. -/
def plc (l : List Int) (x : Int) : List Int := if isE l x = true then (List.range l.length).map (dig l x) else []
theorem isE_quo {l : List Int} {x : Int} (h : isE l x = true) {k : Nat} (hk : k ≤ l.length) : isE l (x / PK l k) = true := by
  obtain ⟨hg, h0, h1, h2⟩ := isE_true h
  obtain ⟨p1, p2⟩ := PK_grp hg k hk
  obtain ⟨q1, q2⟩ := quo_bnd h0 p1
  have e := ordN_grp hg
  simp only [isE, Bool.and_eq_true, decide_eq_true_eq]
  omega
/-- Places that are those of an element. -/
def ElemP (l p : List Int) : Prop := grpB l = true ∧ p.length = l.length ∧ ∀ j, j < l.length → 0 ≤ p.getD j 0 ∧ p.getD j 0 < l.getD j 0
instance (l p : List Int) : Decidable (ElemP l p) := by unfold ElemP; infer_instance
def elemV (l p : List Int) : Int := if ElemP l p then valK l (fun j => p.getD j 0) l.length else 0
theorem horner_bnd {x c p M : Int} (hx : 0 ≤ x) (hM : x + 1 ≤ M) (hp : 0 ≤ p) (hpc : p < c) (hc : c ≤ 24) : 0 ≤ x * c ∧ 0 ≤ x * c + p ∧ x * c + p + 1 ≤ M * 24 := by
  have h1 : 0 ≤ x * c := Int.mul_nonneg hx (by omega)
  have h2 : (x + 1) * c ≤ M * 24 := Int.mul_le_mul hM hc (by omega) (by omega)
  rw [Int.add_mul, Int.one_mul] at h2
  omega
end Go.Proofs.YtaacofbmbpkeoaaDoor
