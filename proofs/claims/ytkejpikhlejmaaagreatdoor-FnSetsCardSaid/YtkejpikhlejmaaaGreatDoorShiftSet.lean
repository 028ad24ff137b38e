/- The contract of the program's own ShiftSet. -/
import Derived.Test.YtkejpikhlejmaaaGreatDoorShiftN
import Derived.Test.YtkejpikhlejmaaaGreatDoorDILA
namespace Go.Proofs.YtkejpikhlejmaaaGreatDoor
open Go.RowKit
set_option maxRecDepth 1000000
theorem sh_tri {l : List Int} (h : grpB l = true) (x : Int) (L : List Nat) :
    orF (fun y => addN l (y : Int) x) L = orF (shF (l.getD 0 1) (l.getD 1 1) (l.getD 2 1) (x % l.getD 0 1) (x / l.getD 0 1 % l.getD 1 1) (x / l.getD 0 1 / l.getD 1 1 % l.getD 2 1)) L :=
  orF_congr _ _ L (fun y _ => by
    have := (tri_grp h).p1
    rw [add_tri (grpB_true h).1 (y : Int) x (by omega)]; rfl)
set_option maxHeartbeats 1000000 in
theorem iShiftS (w : World) (a : Option Addr) (l : List Int) (n cap : Nat) (s x : Int) (hn : n = l.length) (hm : n ≤ 9223372036854775807) (hi : Ints w a l) :
    Calls Tryz.prog 20 #[.agg #[.slice a n cap], .int .i64 s, .int .i64 x] w fun e w' => e = .returned (.int .i64 (shE l s x)) ∧ Below w.heap.size w w' := by
  have HI := Lib.hid (ints_alloc hi (.cells #[.slice a n cap] 26))
  have HN := Lib.hid hn
  have C1 := newC w (.slice a n cap) 26 (n := w.heap.size) rfl
  have HB := Lib.hid (Joins.below_alloc1 w (.cells #[.slice a n cap] 26))
  have T0 := Lib.hid (Below.refl (w.alloc (.cells #[.slice a n cap] 26)).heap.size (w.alloc (.cells #[.slice a n cap] 26)))
  clear hi hn
  cases hs : isS l s with
  | false =>
    have HS := Lib.hid hs
    rw [show shE l s x = -1 by unfold shE; rw [if_neg (by simp [hs])]]
    clear hs
    go_enter Tryz.func20, Tryz.ntmps20
    go_wp2_with (go_at_call 34; refine (iSetIn _ _ _ _ _ _ HN.out hm HI.out).mono ?_; unfold SetInPost; rw [HS.out]; rintro e w1 ⟨p, q, r, v, rfl, hv, hb1⟩; clear hv)
    go_ret
    exact ⟨rfl, HB.out.trans (Below.alloc (hb1.mono (by simp)) (Nat.le_trans (by simp) hb1.size) _)⟩
  | true =>
    have HS := Lib.hid hs
    obtain ⟨hg, m, rfl, hmN, hm24⟩ := isS_true hs
    have HT := Lib.hid (tri_grp hg)
    have HLG := Lib.hid (grpB_true hg).1
    have HP := prod_pad (grpB_true hg).1
    have HO := ordN_grp hg
    rw [HP] at HO
    obtain ⟨p, EP⟩ : ∃ p, Hid (l.getD 0 1 = p) := ⟨_, Lib.hid rfl⟩
    obtain ⟨q, EQ⟩ : ∃ q, Hid (l.getD 1 1 = q) := ⟨_, Lib.hid rfl⟩
    obtain ⟨r, ER⟩ : ∃ r, Hid (l.getD 2 1 = r) := ⟨_, Lib.hid rfl⟩
    rw [EP.out, EQ.out, ER.out] at HT HO
    have HM : Hid (m < 16777216) := Lib.hid hm24
    cases hx : isE l x with
    | false =>
      rw [show shE l m x = -1 by unfold shE; rw [if_pos hs, if_neg (by simp [hx])]]
      have hor : x < 0 ∨ (0 ≤ x ∧ p * q * r ≤ x) := by
        simp only [isE, HO, Bool.and_eq_false_iff, decide_eq_false_iff_not] at hx
        omega
      clear hs hg hx HP HO hm24 hmN
      rcases hor with h | ⟨h, h2⟩
      · go_enter Tryz.func20, Tryz.ntmps20
        go_wp2_with (go_at_call 34; refine (iSetIn _ _ _ _ _ _ HN.out hm HI.out).mono ?_; unfold SetInPost; rw [HS.out]; rintro e w1 ⟨p', q', r', v', rfl, hv, hb1⟩; obtain ⟨e1, e2, e3, e4⟩ := hv rfl; clear hv; rw [EP.out] at e1; rw [EQ.out] at e2; rw [ER.out] at e3; subst e1 e2 e3 e4; have TA := Lib.hid ((HB.out.trans (hb1.mono (by simp))).alloc (Nat.le_trans (by simp) hb1.size) (.cells #[.int .i64 p', .int .i64 q', .int .i64 r'] 47)); have R7 := Lib.hid (heap_alloc_new w1 (.cells #[.int .i64 p', .int .i64 q', .int .i64 r'] 47)))
        go_ret
        exact ⟨rfl, TA.out⟩
      · go_enter Tryz.func20, Tryz.ntmps20
        go_wp2_with (first
          | (go_at_call 55; refine (iProduct _ _ _ _ HT.out).mono ?_; rintro e w2 ⟨rfl, hb2⟩; have T2 := Lib.hid (TA.out.trans (hb2.mono TA.out.size)); obtain ⟨z30, z31, z32, z3f0, z3f1, z3f2⟩ := trip_cell (keepH hb2 (by simp <;> omega) R7.out))
          | (go_at_call 34; refine (iSetIn _ _ _ _ _ _ HN.out hm HI.out).mono ?_; unfold SetInPost; rw [HS.out]; rintro e w1 ⟨p', q', r', v', rfl, hv, hb1⟩; obtain ⟨e1, e2, e3, e4⟩ := hv rfl; clear hv; rw [EP.out] at e1; rw [EQ.out] at e2; rw [ER.out] at e3; subst e1 e2 e3 e4; have TA := Lib.hid ((HB.out.trans (hb1.mono (by simp))).alloc (Nat.le_trans (by simp) hb1.size) (.cells #[.int .i64 p', .int .i64 q', .int .i64 r'] 47)); have R7 := Lib.hid (heap_alloc_new w1 (.cells #[.int .i64 p', .int .i64 q', .int .i64 r'] 47))))
        go_ret
        exact ⟨rfl, T2.out⟩
    | true =>
      rw [show shE l m x = (orF (fun y => addN l (y : Int) x) (bitsN m) : Nat) by unfold shE; rw [if_pos hs, if_pos hx]; rfl]
      rw [sh_tri hg, EP.out, EQ.out, ER.out]
      have HMN : Hid (m < 2 ^ (p * q * r).toNat) := Lib.hid (by rw [← EP.out, ← EQ.out, ← ER.out, ← HP]; exact hmN)
      obtain ⟨_, x0, xN, x23⟩ := isE_true hx
      rw [HP, EP.out, EQ.out, ER.out] at xN
      obtain ⟨X, rfl⟩ : ∃ X : Nat, x = (X : Int) := ⟨x.toNat, by omega⟩
      have XN := Lib.hid xN
      clear hs hg hx HP HO hm24 hmN
      obtain ⟨O, HOO⟩ : ∃ O : Nat, Hid (orF (shF p q r ((X : Int) % p) ((X : Int) / p % q) ((X : Int) / p / q % r)) (bitsN m) = O) := ⟨_, Lib.hid rfl⟩
      have hOlt : O < 16777216 := by rw [← HOO.out]; exact orF_snoc_lt HT.out _
      rw [HOO.out]
      go_enter Tryz.func20, Tryz.ntmps20
      go_wp2_with (first
        | (go_at_call 56; refine (iShiftN _ _ _ _ m X HT.out HMN.out XN.out).mono ?_; rw [HOO.out]; rintro e w3 ⟨rfl, hb3⟩)
        | (go_at_call 55; refine (iProduct _ _ _ _ HT.out).mono ?_; rintro e w2 ⟨rfl, hb2⟩; have T2 := Lib.hid (TA.out.trans (hb2.mono TA.out.size)); obtain ⟨z30, z31, z32, z3f0, z3f1, z3f2⟩ := trip_cell (keepH hb2 (by simp <;> omega) R7.out))
        | (go_at_call 34; refine (iSetIn _ _ _ _ _ _ HN.out hm HI.out).mono ?_; unfold SetInPost; rw [HS.out]; rintro e w1 ⟨p', q', r', v', rfl, hv, hb1⟩; obtain ⟨e1, e2, e3, e4⟩ := hv rfl; clear hv; rw [EP.out] at e1; rw [EQ.out] at e2; rw [ER.out] at e3; subst e1 e2 e3 e4; have TA := Lib.hid ((HB.out.trans (hb1.mono (by simp))).alloc (Nat.le_trans (by simp) hb1.size) (.cells #[.int .i64 p', .int .i64 q', .int .i64 r'] 47)); have R7 := Lib.hid (heap_alloc_new w1 (.cells #[.int .i64 p', .int .i64 q', .int .i64 r'] 47))))
      go_ret
      exact ⟨rfl, T2.out.trans (hb3.mono T2.out.size)⟩
end Go.Proofs.YtkejpikhlejmaaaGreatDoor
