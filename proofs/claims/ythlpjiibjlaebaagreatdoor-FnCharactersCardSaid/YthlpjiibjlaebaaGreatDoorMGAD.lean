/- Merged: GrpSpec3 GrpSpec4 GrpSpec5 GrpSpec6. -/
import Derived.Test.YthlpjiibjlaebaaGreatDoorGrpMath2
import Derived.Deep.QuietTactic
namespace Go.Proofs.YthlpjiibjlaebaaGreatDoor
open Go.RowKit
set_option maxRecDepth 1000000
/-- Whether x is an element. -/
def isE (l : List Int) (x : Int) : Bool := decide (0 ≤ x) && decide (x < ordN l)
theorem isE_true {l : List Int} {x : Int} (h : isE l x = true) : grpB l = true ∧ 0 ≤ x ∧ x < prodI l ∧ x ≤ 23 := by
  simp only [isE, Bool.and_eq_true, decide_eq_true_eq] at h
  cases hg : grpB l with
  | false => rw [ordN_no hg] at h; omega
  | true =>
    rw [ordN_grp hg] at h
    have := (grpB_true hg).2.2
    exact ⟨rfl, h.1, h.2, by omega⟩
/-- The document's sum. -/
def addE (l : List Int) (x y : Int) : Int := if isE l x = true then (if isE l y = true then addN l x y else -1) else -1
theorem sAddE (w : World) (a : Option Addr) (l : List Int) (n cap : Nat) (x y : Int) (hn : n = l.length) (hm : n ≤ 9223372036854775807) (hi : Ints w a l) :
    Calls Tryz.prog 11 #[.agg #[.slice a n cap], .int .i64 x, .int .i64 y] w fun e w' => e = .returned (.int .i64 (addE l x y)) ∧ Below w.heap.size w w' := by
  have HI := Lib.hid (ints_alloc hi (.cells #[.slice a n cap] 26))
  have HN := Lib.hid hn
  have C1 := newC w (.slice a n cap) 26 (n := w.heap.size) rfl
  have HB := Lib.hid (Joins.below_alloc1 w (.cells #[.slice a n cap] 26))
  clear hi hn
  cases hx : isE l x with
  | false =>
    have HX : Hid (false = isE l x) := Lib.hid hx.symm
    rw [show addE l x y = -1 by unfold addE; rw [if_neg (by simp [hx])]]
    clear hx
    go_enter Tryz.func11, Tryz.ntmps11
    go_wp2_with (go_at_call 40; refine (sIs _ _ _ _ _ _ _ HX.out HN.out hm HI.out).mono ?_; rintro e w1 ⟨rfl, hb1⟩; have c1 := keepC hb1 (by simp) C1)
    go_ret
    exact ⟨rfl, HB.out.trans (hb1.mono (by simp))⟩
  | true =>
    have HX : Hid (true = isE l x) := Lib.hid hx.symm
    cases hy : isE l y with
    | false =>
      have HY : Hid (false = isE l y) := Lib.hid hy.symm
      rw [show addE l x y = -1 by unfold addE; rw [if_pos hx, if_neg (by simp [hy])]]
      clear hx hy
      go_enter Tryz.func11, Tryz.ntmps11
      go_wp2_with (first
        | (go_at_call 40; refine (sIs _ _ _ _ _ _ _ HY.out HN.out hm HI1.out).mono ?_; rintro e w2 ⟨rfl, hb2⟩; have c2 := keepC hb2 (Nat.lt_of_lt_of_le (by simp) hb1.size) c1)
        | (go_at_call 40; refine (sIs _ _ _ _ _ _ _ HX.out HN.out hm HI.out).mono ?_; rintro e w1 ⟨rfl, hb1⟩; have c1 := keepC hb1 (by simp) C1; have HI1 := Lib.hid (HI.out.below rfl hb1)))
      go_ret
      exact ⟨rfl, HB.out.trans ((hb1.mono (by simp)).trans (hb2.mono (Nat.le_trans (by simp) hb1.size)))⟩
    | true =>
      have HY : Hid (true = isE l y) := Lib.hid hy.symm
      rw [show addE l x y = addN l x y by unfold addE; rw [if_pos hx, if_pos hy]]
      have BX := Lib.hid (isE_true hx)
      have BY := Lib.hid (isE_true hy)
      clear hx hy
      go_enter Tryz.func11, Tryz.ntmps11
      go_wp2_with (first
        | (go_at_call 44; refine (sAdd _ _ _ _ _ _ _ BX.out.2.1 BX.out.2.2.2 BY.out.2.1 BY.out.2.2.2 HN.out BX.out.1 HI2.out).mono ?_; rintro e w3 ⟨rfl, hb3⟩)
        | (go_at_call 40; refine (sIs _ _ _ _ _ _ _ HY.out HN.out hm HI1.out).mono ?_; rintro e w2 ⟨rfl, hb2⟩; have c2 := keepC hb2 (Nat.lt_of_lt_of_le (by simp) hb1.size) c1; have HI2 := Lib.hid (HI1.out.below rfl hb2))
        | (go_at_call 40; refine (sIs _ _ _ _ _ _ _ HX.out HN.out hm HI.out).mono ?_; rintro e w1 ⟨rfl, hb1⟩; have c1 := keepC hb1 (by simp) C1; have HI1 := Lib.hid (HI.out.below rfl hb1)))
      go_ret
      exact ⟨rfl, HB.out.trans ((hb1.mono (by simp)).trans ((hb2.mono (Nat.le_trans (by simp) hb1.size)).trans (hb3.mono (Nat.le_trans (by simp) (Nat.le_trans hb1.size hb2.size)))))⟩
end Go.Proofs.YthlpjiibjlaebaaGreatDoor

namespace Go.Proofs.YthlpjiibjlaebaaGreatDoor
open Go.RowKit
set_option maxRecDepth 1000000
/-- A place of the negative. -/
def ndig (l : List Int) (x : Int) (k : Nat) : Int := -(x / PK l k % l.getD k 0) % l.getD k 0
theorem ndig_bnd {l : List Int} (h : Ords l) (x : Int) {k : Nat} (hk : k < l.length) : 0 ≤ ndig l x k ∧ ndig l x k < l.getD k 0 := by
  have := h.pos k hk
  exact ⟨Int.emod_nonneg _ (by omega), Int.emod_lt_of_pos _ (by omega)⟩
theorem ndig_neg (l : List Int) (x : Int) : valK l (ndig l x) l.length = negN l x := by
  unfold negN mulN
  apply val_congr
  intro j _
  unfold ndig mulF
  rw [← neg_place, Int.sub_eq_add_neg, Int.add_comm, Int.add_emod_right]; rfl
def negE (l : List Int) (x : Int) : Int := if isE l x = true then negN l x else -1
/-- The document's multiple. -/
def mulE (l : List Int) (x k : Int) : Int := if isE l x = true then (if -100 ≤ k ∧ k ≤ 100 then mulN l x k else -1) else -1
end Go.Proofs.YthlpjiibjlaebaaGreatDoor

namespace Go.Proofs.YthlpjiibjlaebaaGreatDoor
open Go.RowKit
set_option maxRecDepth 1000000
theorem lcm_yes {E c q : Int} (hE : 1 ≤ E) (hc : 1 ≤ c) (hd : E ∣ q) (hq : 1 ≤ q) (hL : q ≤ (E.lcm c : Nat)) (h : q % c = 0) : q = (E.lcm c : Nat) := by
  obtain ⟨e, rfl⟩ : ∃ n : Nat, E = n := ⟨E.toNat, by omega⟩
  obtain ⟨d, rfl⟩ : ∃ n : Nat, c = n := ⟨c.toNat, by omega⟩
  obtain ⟨p, rfl⟩ : ∃ n : Nat, q = n := ⟨q.toNat, by omega⟩
  have h1 : e ∣ p := Int.natCast_dvd_natCast.1 hd
  have h2 : d ∣ p := Int.natCast_dvd_natCast.1 (Int.dvd_of_emod_eq_zero h)
  have h3 : Nat.lcm e d ∣ p := Nat.lcm_dvd h1 h2
  have h4 := Nat.le_of_dvd (by omega) h3
  have h5 : ((e : Int).lcm (d : Int)) = Nat.lcm e d := rfl
  rw [h5] at hL ⊢
  omega
theorem lcm_no {E c q : Int} (hE : 1 ≤ E) (hc : 1 ≤ c) (hd : E ∣ q) (hq : 1 ≤ q) (hL : q ≤ (E.lcm c : Nat)) (h : q % c ≠ 0) : E ∣ q + E ∧ q + E ≤ (E.lcm c : Nat) := by
  refine ⟨Int.dvd_add hd (Int.dvd_refl _), ?_⟩
  obtain ⟨e, rfl⟩ : ∃ n : Nat, E = n := ⟨E.toNat, by omega⟩
  obtain ⟨d, rfl⟩ : ∃ n : Nat, c = n := ⟨c.toNat, by omega⟩
  obtain ⟨p, rfl⟩ : ∃ n : Nat, q = n := ⟨q.toNat, by omega⟩
  have h5 : ((e : Int).lcm (d : Int)) = Nat.lcm e d := rfl
  rw [h5] at hL ⊢
  have h1 : e ∣ p := Int.natCast_dvd_natCast.1 hd
  have h6 : p ≠ Nat.lcm e d := by
    intro e1
    have : d ∣ p := by rw [e1]; exact Nat.dvd_lcm_right _ _
    exact h (Int.emod_eq_zero_of_dvd (Int.natCast_dvd_natCast.2 this))
  have h7 : e ∣ Nat.lcm e d - p := Nat.dvd_sub (Nat.dvd_lcm_left _ _) h1
  have h8 := Nat.le_of_dvd (by omega) h7
  omega
def expE (l : List Int) : Int := if grpB l = true then lcmK l l.length else 0
set_option maxHeartbeats 1000000 in
theorem sExp (w : World) (a : Option Addr) (l : List Int) (n cap : Nat) (hn : n = l.length) (hm : n ≤ 9223372036854775807) (hi : Ints w a l) :
    Calls Tryz.prog 10 #[.agg #[.slice a n cap]] w fun e w' => e = .returned (.int .i64 (expE l)) ∧ Below w.heap.size w w' := by
  have HI := Lib.hid (ints_alloc hi (.cells #[.slice a n cap] 26))
  have HN := Lib.hid hn
  have C1 := newC w (.slice a n cap) 26 (n := w.heap.size) rfl
  have HB := Lib.hid (Joins.below_alloc1 w (.cells #[.slice a n cap] 26))
  have T0 := Lib.hid (Below.refl (w.alloc (.cells #[.slice a n cap] 26)).heap.size (w.alloc (.cells #[.slice a n cap] 26)))
  clear hi
  cases hg : grpB l with
  | false =>
    have HG := Lib.hid hg
    rw [show expE l = 0 by unfold expE; rw [if_neg (by simp [hg])]]
    clear hg hn
    go_enter Tryz.func10, Tryz.ntmps10
    go_wp2_with (go_at_call 42; refine (sIsGroup _ _ _ _ _ HN.out hm HI.out).mono ?_; rw [HG.out]; rintro e w1 ⟨rfl, hb1⟩; have c1 := keepC hb1 (by simp) C1)
    go_ret
    exact ⟨rfl, HB.out.trans (hb1.mono (by simp))⟩
  | true =>
    have HG := Lib.hid hg
    have OR := Lib.hid (ords_grp hg)
    have HF : Hid (expE l = lcmK l n) := Lib.hid (by unfold expE; rw [if_pos hg, hn])
    have hn3 : n ≤ 3 := by rw [hn]; exact (grpB_true hg).1
    clear hg hn
    go_enter Tryz.func10, Tryz.ntmps10
    go_wp2_with (go_at_call 42; refine (sIsGroup _ _ _ _ _ HN.out hm HI.out).mono ?_; rw [HG.out]; rintro e w1 ⟨rfl, hb1⟩; have T1 := Lib.hid (T0.out.trans (hb1.mono T0.out.size)); have c1 := keepC T1.out (by simp) C1)
    have HI1 := Lib.hid (HI.out.below rfl T1.out)
    go_loop [3, 4] (fun q i => ∃ k : Nat, k ≤ n ∧ i = .int .i64 k ∧ q = .int .i64 (lcmK l k)) (fun _ i => n - (intOf i).toNat)
    case atStart => exact ⟨0, by omega, rfl, rfl⟩
    case round =>
      obtain ⟨k, hk, rfl, rfl⟩ := hrel
      by_cases hlt : k < n
      · have hkl2 : k < l.length := by rw [← HN.out]; exact hlt
        rcases HI1.out with h0 | ⟨b, off, h1, hbl, hc⟩
        · rw [h0] at hkl2; simp at hkl2
        · subst h1
          have r1 := hc k hkl2
          obtain ⟨e1, e2⟩ := lcmK_bnd OR.out k (by omega)
          obtain ⟨f1, f2⟩ := lcmK_bnd OR.out (k + 1) (by omega)
          obtain ⟨p1, p2⟩ := OR.out.PK k (by omega)
          obtain ⟨q1, q2⟩ := OR.out.PK (k + 1) (by omega)
          have e3 := Int.le_trans e2 p2
          have f3 := Int.le_trans f2 q2
          obtain ⟨o1, o2⟩ := OR.out.pos k hkl2
          have HS : Hid (lcmK l (k + 1) = ((lcmK l k).lcm (l.getD k 0) : Nat)) := Lib.hid rfl
          rw [HS.out] at f1 f3
          clear hc hkl2 e2 f2 p1 p2 q1 q2
          generalize l.getD k 0 = c at *
          generalize lcmK l k = E at *
          obtain ⟨L, HL⟩ : ∃ L : Nat, Hid (L = E.lcm c) := ⟨_, Lib.hid rfl⟩
          rw [← HL.out] at f1 f3 HS
          go_wp2
          go_loop [5] (fun q => ∃ x : Int, q = .int .i64 x ∧ Hid (E ∣ x) ∧ 1 ≤ x ∧ x ≤ L) (fun q => L - (intOf q).toNat)
          case atStart => exact ⟨E, rfl, Lib.hid (Int.dvd_refl _), e1, by
            have : E.toNat ≤ E.lcm c := by
              obtain ⟨en, rfl⟩ : ∃ n : Nat, E = n := ⟨E.toNat, by omega⟩
              obtain ⟨cn, rfl⟩ : ∃ n : Nat, c = n := ⟨c.toNat, by omega⟩
              exact Nat.le_of_dvd (Nat.lcm_pos (by omega) (by omega)) (Nat.dvd_lcm_left _ _)
            rw [HL.out]; omega⟩
          case round =>
            obtain ⟨x, rfl, HD, hx1, hx2⟩ := hrel
            by_cases hz : x % c = 0
            · have hzb : (x % c != 0) = false := by simp [hz]
              have HQ := Lib.hid (lcm_yes e1 o1 HD.out hx1 (by rw [← HL.out]; exact hx2) hz)
              clear hz
              go_wp2
              go_round
              case rel => exact ⟨k + 1, by omega, by go_num, by rw [HQ.out, HS.out, HL.out]⟩
              case measure => simp [intOf]; omega
            · have hzb : (x % c != 0) = true := by simp [hz]
              have HQ := Lib.hid (lcm_no e1 o1 HD.out hx1 (by rw [← HL.out]; exact hx2) hz)
              have hq2 := HQ.out.2
              rw [← HL.out] at hq2
              clear hz
              go_wp2
              go_round
              case rel => exact ⟨x + E, by go_num, Lib.hid HQ.out.1, by omega, hq2⟩
              case measure => simp [intOf]; omega
      · obtain rfl : k = n := by omega
        go_wp2
        go_ret
        exact ⟨by rw [HF.out]; rfl, HB.out.trans (T1.out.mono (by simp))⟩
end Go.Proofs.YthlpjiibjlaebaaGreatDoor

namespace Go.Proofs.YthlpjiibjlaebaaGreatDoor
open Go.RowKit
set_option maxRecDepth 1000000
theorem below_grown {w w' : World} (h : Below w.heap.size w w') (row : Option Nat) : w.grownBy w' row := ⟨h.os, h.tape, h.output, h.size, fun k hk _ => h.block k hk⟩
theorem owns_below {w w' : World} {B n : Nat} {e : TypeId} {v : Value} {xs : List Value} (h : w.ownsRow B e 1 v n xs) (hb : Below w.heap.size w w') : w'.ownsRow B e 1 v n xs :=
  h.kept (below_grown hb none) (by cases hv : v.ownBlock with
    | none => exact .inl rfl
    | some g => exact .inr (by simp))
/-- The places of an element. -/
def plc (l : List Int) (x : Int) : List Int := if isE l x = true then (List.range l.length).map (dig l x) else []
theorem isE_quo {l : List Int} {x : Int} (h : isE l x = true) {k : Nat} (hk : k ≤ l.length) : isE l (x / PK l k) = true := by
  obtain ⟨hg, h0, h1, h2⟩ := isE_true h
  obtain ⟨p1, p2⟩ := PK_grp hg k hk
  obtain ⟨q1, q2⟩ := quo_bnd h0 p1
  have e := ordN_grp hg
  simp only [isE, Bool.and_eq_true, decide_eq_true_eq]
  omega
/-- Places that are those of an element. -/
def ElemP (l p : List Int) : Prop := grpB l = true ∧ p.length = l.length ∧ ∀ j, j < l.length → 0 ≤ p.getD j 0 ∧ p.getD j 0 < l.getD j 0
instance (l p : List Int) : Decidable (ElemP l p) := by unfold ElemP; infer_instance
def elemV (l p : List Int) : Int := if ElemP l p then valK l (fun j => p.getD j 0) l.length else 0
theorem horner_bnd {x c p M : Int} (hx : 0 ≤ x) (hM : x + 1 ≤ M) (hp : 0 ≤ p) (hpc : p < c) (hc : c ≤ 24) : 0 ≤ x * c ∧ 0 ≤ x * c + p ∧ x * c + p + 1 ≤ M * 24 := by
  have h1 : 0 ≤ x * c := Int.mul_nonneg hx (by omega)
  have h2 : (x + 1) * c ≤ M * 24 := Int.mul_le_mul hM hc (by omega) (by omega)
  rw [Int.add_mul, Int.one_mul] at h2
  omega
end Go.Proofs.YthlpjiibjlaebaaGreatDoor
