/- The contracts of the document's reading of groups (spec): places of an element, the element of places. -/
import Derived.Test.YticgoodmfjjggaaGreatDoorGrpSpec5
import Derived.Deep.QuietTactic
namespace Go.Proofs.YticgoodmfjjggaaGreatDoor
open Go.RowKit
set_option maxRecDepth 1000000
theorem below_grown {w w' : World} (h : Below w.heap.size w w') (row : Option Nat) : w.grownBy w' row := ⟨h.os, h.tape, h.output, h.size, fun k hk _ => h.block k hk⟩
theorem owns_below {w w' : World} {B n : Nat} {e : TypeId} {v : Value} {xs : List Value} (h : w.ownsRow B e 1 v n xs) (hb : Below w.heap.size w w') : w'.ownsRow B e 1 v n xs :=
  h.kept (below_grown hb none) (by cases hv : v.ownBlock with
    | none => exact .inl rfl
    | some g => exact .inr (by simp))
/-- The places of an element. -/
def plc (l : List Int) (x : Int) : List Int := if isE l x = true then (List.range l.length).map (dig l x) else []
theorem isE_quo {l : List Int} {x : Int} (h : isE l x = true) {k : Nat} (hk : k ≤ l.length) : isE l (x / PK l k) = true := by
  obtain ⟨hg, h0, h1, h2⟩ := isE_true h
  obtain ⟨p1, p2⟩ := PK_grp hg k hk
  obtain ⟨q1, q2⟩ := quo_bnd h0 p1
  have e := ordN_grp hg
  simp only [isE, Bool.and_eq_true, decide_eq_true_eq]
  omega
set_option maxHeartbeats 1000000 in
theorem sPlaces (w : World) (a : Option Addr) (l : List Int) (n cap : Nat) (x : Int) (hn : n = l.length) (hm : n ≤ 9223372036854775807) (hi : Ints w a l) :
    Calls Tryz.prog 33 #[.agg #[.slice a n cap], .int .i64 x] w fun e w' => ∃ v, e = .returned v ∧ w'.ownsRow w.heap.size 3 1 v (plc l x).length ((plc l x).map (Value.int .i64)) ∧ Below w.heap.size w w' := by
  obtain ⟨i0, hi0, hz0, hz1, hz2⟩ := info_parts intInfo
  have HI := Lib.hid (ints_alloc hi (.cells #[.slice a n cap] 26))
  have HN := Lib.hid hn
  have C1 := newC w (.slice a n cap) 26 (n := w.heap.size) rfl
  have HB := Lib.hid (Joins.below_alloc1 w (.cells #[.slice a n cap] 26))
  clear hi hn
  cases hx : isE l x with
  | false =>
    have HX : Hid (false = isE l x) := Lib.hid hx.symm
    rw [show plc l x = [] by unfold plc; rw [if_neg (by simp [hx])]]
    clear hx
    have T0 := Lib.hid (below_grown (Joins.below_alloc1 (w.alloc (.cells #[.slice a n cap] 26)) (.cells #[] 3)) none)
    have C2 := keepC (Joins.below_alloc1 _ (.cells #[] 3)) (by simp) C1
    have HI2 := Lib.hid (ints_alloc HI.out (.cells #[] 3))
    go_enter Tryz.func33, Tryz.ntmps33
    have OW : Hid (((w.alloc (.cells #[.slice a n cap] 26)).alloc (.cells #[] 3)).ownsRow (w.heap.size) 3 1 (.slice (some ⟨w.heap.size + 1, 0, none⟩) 0 0) 0 []) := Lib.hid (by simpa using World.ownsRow_lit (base := w.heap.size) (e := 3) (size := 1) (w.alloc (.cells #[.slice a n cap] 26)) #[] 0 (by simp) (by simp [maxLen]) rfl)
    go_wp2
    refine wp_loop_rounds 1 ?_
    rw [rounds_succ]
    by_cases h0 : n = 0
    · subst h0
      go_wp2
      go_ret
      exact ⟨_, rfl, OW.out, HB.out.alloc (by simp) _⟩
    · go_wp2_with (go_at_call 71; refine (sIs _ _ _ _ _ _ _ HX.out HN.out hm HI2.out).mono ?_; rintro e w1 ⟨rfl, hb1⟩)
      go_ret
      exact ⟨_, rfl, owns_below OW.out hb1, (HB.out.alloc (by simp) _).trans (hb1.mono (by simp; omega))⟩
  | true =>
    have BX := Lib.hid (isE_true hx)
    have HX := Lib.hid hx
    have OR := Lib.hid (ords_grp BX.out.1)
    rw [show plc l x = (List.range l.length).map (dig l x) by unfold plc; rw [if_pos hx]]
    have hn3 : n ≤ 3 := by rw [HN.out]; exact OR.out.len
    clear hx
    go_enter Tryz.func33, Tryz.ntmps33
    have OW : Hid (((w.alloc (.cells #[.slice a n cap] 26)).alloc (.cells #[] 3)).ownsRow (w.heap.size + 1) 3 1 (.slice (some ⟨w.heap.size + 1, 0, none⟩) 0 0) 0 []) := Lib.hid (by simpa using World.ownsRow_lit (base := w.heap.size + 1) (e := 3) (size := 1) (w.alloc (.cells #[.slice a n cap] 26)) #[] 0 (by simp) (by simp [maxLen]) rfl)
    go_wp2
    go_loopw [1, 5, 6] (fun u v i wr => ∃ k : Nat, k ≤ n ∧ i = .int .i64 k ∧ u = .int .i64 (x / PK l k) ∧ wr.ownsRow (w.heap.size + 1) 3 1 v k (((List.range k).map (dig l x)).map (Value.int .i64)) ∧ Below (w.heap.size + 1) (w.alloc (.cells #[.slice a n cap] 26)) wr) (fun _ _ i _ => n - (intOf i).toNat)
    case atStart => exact ⟨0, Nat.zero_le _, rfl, by rw [PK_zero, Int.ediv_one], OW.out, (Below.refl _ _).alloc (by simp) _⟩
    case round =>
      obtain ⟨k, hk, rfl, rfl, hown, hbel⟩ := hrel
      have c4 := keepC hbel (by simp) C1
      by_cases hlt : k < n
      · have hkl2 : k < l.length := by rw [← HN.out]; exact hlt
        rcases HI.out with h0 | ⟨b, off, h1, hbl, hc⟩
        · rw [h0] at hkl2; simp at hkl2
        · subst h1
          have r1 := keepC hbel (by simpa using hbl) (hc k hkl2)
          have HE : Hid (true = isE l (x / PK l k)) := Lib.hid (isE_quo HX.out (by omega)).symm
          obtain ⟨p1, p2⟩ := OR.out.PK k (by omega)
          obtain ⟨o1, o2⟩ := OR.out.pos k hkl2
          obtain ⟨x1, x2⟩ := quo_bnd BX.out.2.1 p1
          have x3 := Int.le_trans x2 BX.out.2.2.2
          have QX := Lib.hid (quo_step l x k hkl2 (by omega))
          have HD : Hid (dig l x k = x / PK l k % l.getD k 0) := Lib.hid rfl
          have HIr := Lib.hid (HI.out.below (by simp) hbel)
          have HOW := Lib.hid hown
          have HBL := Lib.hid hbel
          have hbl2 : b < w.heap.size + 1 := by simpa using hbl
          clear hc hkl2 x2 hown hbel hbl
          generalize x / PK l k = u at *
          generalize l.getD k 0 = c at *
          go_wp2_with (first
            | (at_builtin; have ho2 := owns_below HOW.out hb1; refine wpList_append_own _ rfl _ _ 24 rfl (w.heap.size + 1) 3 i0 (.int .i64 0) 1 8 Tryz.underlying24 hi0 hz0 hz1 hz2 rfl (by decide) _ _ _ rfl (ho2.alloc _) ⟨w1.heap.size, 0, none⟩ 1 1 [.int .i64 (u % c)] rfl rfl ?c1 ?c2 ?c3 ?c4 ?c5 ?_)
            | (go_at_call 71; refine (sIs _ _ _ _ _ _ _ HE.out HN.out hm HIr.out).mono ?_; rintro e w1 ⟨rfl, hb1⟩; have c5 := keepC hb1 (Nat.lt_of_lt_of_le (by simp) HBL.out.size) c4; have r5 := keepC hb1 (Nat.lt_of_lt_of_le hbl2 (by have := HBL.out.size; simpa using this)) r1))
          case c1 =>
            intro q u2 hq
            match q, hq with
            | 0, hq => simp at hq; subst hq; simp [Addr.add]
          case c2 => intro u2 hu2; simp at hu2; subst hu2; rfl
          case c3 => unfold maxLen; omega
          case c4 => omega
          case c5 => have := HBL.out.size; have := hb1.size; simp at *; omega
          intro v' w4 hown' hgrow _
          have c6 := hgrow.cell (keepC (Joins.below_alloc1 w1 _) (Nat.lt_of_lt_of_le (show w.heap.size < w.heap.size + 1 by omega) (Nat.le_trans (Nat.le_trans (by simp) HBL.out.size) hb1.size)) c5) (fun e => absurd (HOW.out.lt _ e.symm).1 (by simp))
          have r6 := hgrow.cell (keepC (Joins.below_alloc1 w1 _) (Nat.lt_of_lt_of_le hbl2 (Nat.le_trans (Nat.le_trans (by simp) HBL.out.size) hb1.size)) r5) (fun e => absurd (HOW.out.lt _ e.symm).1 (by simp; omega))
          have HBW : Hid (Below (w.heap.size + 1) (w.alloc (.cells #[.slice (some ⟨b, off, none⟩) n cap] 26)) w4) := Lib.hid (((HBL.out.trans (hb1.mono (by have := HBL.out.size; simpa using this))).alloc (Nat.le_trans (Nat.le_trans (by simp) HBL.out.size) hb1.size) _).grown hgrow (by have := HBL.out.size; have := hb1.size; simp at *; omega) (fun g hg => by have := (HOW.out.lt g hg).1; omega))
          have HOW4 : Hid (w4.ownsRow (w.heap.size + 1) 3 1 v' (k + 1) (((List.range (k + 1)).map (dig l x)).map (Value.int .i64))) := Lib.hid (by
            rw [List.range_succ, List.map_append, List.map_append, List.map_cons, List.map_nil, List.map_cons, List.map_nil, HD.out]
            simpa using hown')
          clear hown' hgrow
          go_wp2
          go_roundw
          case rel => exact ⟨k + 1, by omega, by go_num, by rw [QX.out], HOW4.out, HBW.out⟩
          case measure => simp [intOf]; omega
      · obtain rfl : k = n := by omega
        have HOW : Hid (wr.ownsRow w.heap.size 3 1 _ ((List.range l.length).map (dig l x)).length (((List.range l.length).map (dig l x)).map (Value.int .i64))) := Lib.hid (by rw [← HN.out]; simpa using Joins.ownsRow_le hown (Nat.le_succ _))
        clear hown
        go_wp2
        go_ret
        exact ⟨_, rfl, HOW.out, HB.out.trans (hbel.mono (by omega))⟩
/-- Places that are those of an element. -/
def ElemP (l p : List Int) : Prop := grpB l = true ∧ p.length = l.length ∧ ∀ j, j < l.length → 0 ≤ p.getD j 0 ∧ p.getD j 0 < l.getD j 0
instance (l p : List Int) : Decidable (ElemP l p) := by unfold ElemP; infer_instance
def elemV (l p : List Int) : Int := if ElemP l p then valK l (fun j => p.getD j 0) l.length else 0
theorem horner_bnd {x c p M : Int} (hx : 0 ≤ x) (hM : x + 1 ≤ M) (hp : 0 ≤ p) (hpc : p < c) (hc : c ≤ 24) : 0 ≤ x * c ∧ 0 ≤ x * c + p ∧ x * c + p + 1 ≤ M * 24 := by
  have h1 : 0 ≤ x * c := Int.mul_nonneg hx (by omega)
  have h2 : (x + 1) * c ≤ M * 24 := Int.mul_le_mul hM hc (by omega) (by omega)
  rw [Int.add_mul, Int.one_mul] at h2
  omega
set_option maxHeartbeats 1000000 in
theorem sElem (w : World) (a : Option Addr) (l : List Int) (n cap : Nat) (a2 : Option Addr) (p : List Int) (n2 cap2 : Nat) (hn : n = l.length) (hm : n ≤ 9223372036854775807) (hi : Ints w a l) (hn2 : n2 = p.length) (hi2 : Ints w a2 p) :
    Calls Tryz.prog 29 #[.agg #[.slice a n cap], .slice a2 n2 cap2] w fun e w' => e = .returned (.tuple #[.int .i64 (elemV l p), .bool (decide (ElemP l p))]) ∧ Below w.heap.size w w' := by
  have HI := Lib.hid (ints_alloc hi (.cells #[.slice a n cap] 26))
  have HI2 := Lib.hid (ints_alloc hi2 (.cells #[.slice a n cap] 26))
  have HN := Lib.hid hn
  have HN2 := Lib.hid hn2
  have C1 := newC w (.slice a n cap) 26 (n := w.heap.size) rfl
  have HB := Lib.hid (Joins.below_alloc1 w (.cells #[.slice a n cap] 26))
  have T0 := Lib.hid (Below.refl (w.alloc (.cells #[.slice a n cap] 26)).heap.size (w.alloc (.cells #[.slice a n cap] 26)))
  clear hi hn hi2 hn2
  cases hg : grpB l with
  | false =>
    have HG := Lib.hid hg
    have hno : ¬ ElemP l p := fun h => by rw [h.1] at hg; cases hg
    rw [show elemV l p = 0 by unfold elemV; rw [if_neg hno], decide_eq_false hno]
    clear hg hno
    go_enter Tryz.func29, Tryz.ntmps29
    go_wp2_with (go_at_call 24; refine (sIsGroup _ _ _ _ _ HN.out hm HI.out).mono ?_; rw [HG.out]; rintro e w1 ⟨rfl, hb1⟩; have c1 := keepC hb1 (by simp) C1)
    go_ret2
    exact ⟨rfl, HB.out.trans (hb1.mono (by simp))⟩
  | true =>
    have HG := Lib.hid hg
    have OR := Lib.hid (ords_grp hg)
    have hn3 : n ≤ 3 := by rw [HN.out]; exact OR.out.len
    by_cases hl : n2 = n
    · subst hl
      have HL : Hid (p.length = l.length) := Lib.hid (by rw [← HN.out, ← HN2.out])
      clear hg
      go_enter Tryz.func29, Tryz.ntmps29
      go_wp2_with (go_at_call 24; refine (sIsGroup _ _ _ _ _ HN.out hm HI.out).mono ?_; rw [HG.out]; rintro e w1 ⟨rfl, hb1⟩; have T1 := Lib.hid (T0.out.trans (hb1.mono T0.out.size)); have c1 := keepC T1.out (by simp) C1)
      go_loopw [6, 7] (fun x i wr => ∃ (k : Nat) (z : Int), k ≤ n2 ∧ i = .int .i64 ((k : Int) - 1) ∧ x = .int .i64 z ∧ 0 ≤ z ∧ Hid (z + 1 ≤ (24 : Int) ^ (n2 - k)) ∧ Hid (∀ j, k ≤ j → j < n2 → 0 ≤ p.getD j 0 ∧ p.getD j 0 < l.getD j 0) ∧ Hid (valK l (fun j => p.getD j 0) n2 = valK l (fun j => p.getD j 0) k + PK l k * z) ∧ Below (w.heap.size + 1) (w.alloc (.cells #[.slice a n2 cap] 26)) wr) (fun _ i _ => (intOf i + 1).toNat)
      case atStart => exact ⟨n2, 0, Nat.le_refl _, rfl, rfl, by omega, Lib.hid (by simp), Lib.hid (fun j h1 h2 => by omega), Lib.hid (by simp), by simpa using T1.out⟩
      case round =>
        obtain ⟨k, z, hk, rfl, rfl, hz0, HZ, HA, HV, hbel⟩ := hrel
        have c4 := keepC hbel (by simp) C1
        cases k with
        | succ k =>
          have hkl2 : k < l.length := by rw [← HN.out]; omega
          have hkp2 : k < p.length := by rw [← HN2.out]; omega
          rcases HI.out with h0 | ⟨b, off, h1, hbl, hc⟩
          · rw [h0] at hkl2; simp at hkl2
          rcases HI2.out with h0 | ⟨b2, off2, h2, hbl2, hc2⟩
          · rw [h0] at hkp2; simp at hkp2
          subst h1 h2
          have r1 := keepC hbel (by simpa using hbl) (hc k hkl2)
          have r2 := keepC hbel (by simpa using hbl2) (hc2 k hkp2)
          obtain ⟨o1, o2⟩ := OR.out.pos k hkl2
          have HS := Lib.hid (PK_succ l k hkl2)
          have hii : (((k + 1 : Nat) : Int) - 1) = (k : Int) := by omega
          rw [hii]
          clear hc hc2
          by_cases hin : 0 ≤ p.getD k 0 ∧ p.getD k 0 < l.getD k 0
          · have HIN := Lib.hid hin
            have h2 : (24 : Int) ^ (n2 - (k + 1)) ≤ 24 ^ 2 := by
              have : n2 - (k + 1) = 0 ∨ n2 - (k + 1) = 1 ∨ n2 - (k + 1) = 2 := by omega
              rcases this with e | e | e <;> rw [e] <;> decide
            have hz24 : z + 1 ≤ 576 := by have := HZ.out; omega
            obtain ⟨b1, b2, b3⟩ := horner_bnd hz0 hz24 hin.1 hin.2 o2
            have B4 := Lib.hid (horner_bnd hz0 HZ.out hin.1 hin.2 o2).2.2
            have G1 : Hid (true = (decide (0 ≤ p.getD k 0) && decide (p.getD k 0 ≤ l.getD k 0 - 1))) := Lib.hid (by
              have h3 : p.getD k 0 ≤ l.getD k 0 - 1 := by omega
              simp only [hin.1, h3, decide_true, Bool.and_true])
            have HA2 : Hid (∀ j, k ≤ j → j < n2 → 0 ≤ p.getD j 0 ∧ p.getD j 0 < l.getD j 0) := Lib.hid (fun j h1 h2 => by
              by_cases e : j = k
              · rw [e]; exact HIN.out
              · exact HA.out j (by omega) h2)
            have HV2 : Hid (valK l (fun j => p.getD j 0) n2 = valK l (fun j => p.getD j 0) k + PK l k * (z * l.getD k 0 + p.getD k 0)) := Lib.hid (by
              rw [HV.out, HS.out]
              simp only [valK]
              rw [Int.mul_add, Int.mul_comm (p.getD k 0), Int.mul_assoc, Int.mul_comm (l.getD k 0), Int.add_assoc, Int.add_comm (PK l k * p.getD k 0)])
            obtain ⟨q0, q1⟩ := hin
            clear hkl2 hkp2 HA HV HIN h2 HS hii
            generalize p.getD k 0 = q at *
            generalize l.getD k 0 = c at *
            go_wp2
            go_quiet ((go_at_call 86; refine Calls.quiet_of_same ((sIn _ _ _ _ _ G1.out).mono fun _ _ ⟨h1, h2⟩ => ⟨h1, h2.symm⟩)))
            go_wp2
            go_quiet (fail)
            go_wp2
            go_roundw
            case rel => exact ⟨k, z * c + q, by omega, by go_num, by go_num, b2, Lib.hid (by rw [show n2 - k = n2 - (k + 1) + 1 by omega, Int.pow_succ]; exact B4.out), HA2, HV2, hbel.trans (Joins.below_draws _ _ _)⟩
            case measure => simp [intOf]
          · have hno : ¬ ElemP l p := fun h => hin (h.2.2 k hkl2)
            have G1 : Hid (false = (decide (0 ≤ p.getD k 0) && decide (p.getD k 0 ≤ l.getD k 0 - 1))) := Lib.hid (by
              have : (decide (0 ≤ p.getD k 0) && decide (p.getD k 0 ≤ l.getD k 0 - 1)) = decide (0 ≤ p.getD k 0 ∧ p.getD k 0 ≤ l.getD k 0 - 1) := by rw [Bool.decide_and]
              rw [this, decide_eq_false (by omega)])
            have HE1 : Hid (elemV l p = 0) := Lib.hid (by unfold elemV; rw [if_neg hno])
            have HE2 := Lib.hid (decide_eq_false hno)
            clear hin hkl2 hkp2 HA HV HS hii hno
            generalize p.getD k 0 = q at *
            generalize l.getD k 0 = c at *
            go_wp2
            go_quiet ((go_at_call 86; refine Calls.quiet_of_same ((sIn _ _ _ _ _ G1.out).mono fun _ _ ⟨h1, h2⟩ => ⟨h1, h2.symm⟩)))
            go_wp2
            go_ret2
            exact ⟨by rw [HE1.out, HE2.out]; rfl, HB.out.trans ((hbel.trans (Joins.below_draws _ _ _)).mono (by omega))⟩
        | zero =>
          have hyes : ElemP l p := ⟨HG.out, HL.out, fun j hj => HA.out j (Nat.zero_le _) (by rw [HN.out]; exact hj)⟩
          have HE1 : Hid (elemV l p = z) := Lib.hid (by
            unfold elemV; rw [if_pos hyes, ← HN.out, HV.out, PK_zero]; simp [valK])
          have HE2 := Lib.hid (decide_eq_true hyes)
          clear hyes HA HV
          go_wp2
          go_ret2
          exact ⟨by rw [HE1.out, HE2.out]; rfl, HB.out.trans (hbel.mono (by omega))⟩
    · have hno : ¬ ElemP l p := fun h => hl (by rw [HN.out, HN2.out]; exact h.2.1)
      rw [show elemV l p = 0 by unfold elemV; rw [if_neg hno], decide_eq_false hno]
      have hl2 : ((n2 : Int) != (n : Int)) = true := by simp; omega
      clear hg hno hl
      go_enter Tryz.func29, Tryz.ntmps29
      go_wp2_with (go_at_call 24; refine (sIsGroup _ _ _ _ _ HN.out hm HI.out).mono ?_; rw [HG.out]; rintro e w1 ⟨rfl, hb1⟩; have c1 := keepC hb1 (by simp) C1)
      go_ret2
      exact ⟨rfl, HB.out.trans (hb1.mono (by simp))⟩
end Go.Proofs.YticgoodmfjjggaaGreatDoor
