/- The contracts of the program's own ShiftSet, NegateSet, DilateSet. -/
import Derived.Test.YthlpjiibjlaebaaDoorDil
import Derived.Test.YthlpjiibjlaebaaDoorShiftSet
import Derived.Test.YthlpjiibjlaebaaDoorDilSpec
namespace Go.Proofs.YthlpjiibjlaebaaDoor
open Go.RowKit
set_option maxRecDepth 1000000
theorem dl_tri {l : List Int} (h : grpB l = true) (k : Int) (L : List Nat) :
    orF (fun y => mulN l (y : Int) k) L = orF (dilF (l.getD 0 1) (l.getD 1 1) (l.getD 2 1) k) L :=
  orF_congr _ _ L (fun y _ => by
    have := (tri_grp h).p1
    rw [mul_tri (grpB_true h).1 (y : Int) k (by omega)]; rfl)
set_option maxHeartbeats 1000000 in
theorem iDil (w : World) (a : Option Addr) (l : List Int) (n cap : Nat) (s x : Int) (hn : n = l.length) (hm : n ≤ 9223372036854775807) (hi : Ints w a l) (B : Nat) (hB0 : B ≤ w.heap.size) (ht : TabZ B w) :
    Calls Tryd.prog 70 #[.agg #[.slice a n cap], .int .i64 s, .int .i64 x] w fun e w' => e = .returned (.int .i64 (dlE l s x)) ∧ Below w.heap.size w w' := by
  have HTZ := Lib.hid ht
  clear ht
  have HI := Lib.hid (ints_alloc hi (.cells #[.slice a n cap] 26))
  have HN := Lib.hid hn
  have C1 := newC w (.slice a n cap) 26 (n := w.heap.size) rfl
  have HB := Lib.hid (Joins.below_alloc1 w (.cells #[.slice a n cap] 26))
  have T0 := Lib.hid (Below.refl (w.alloc (.cells #[.slice a n cap] 26)).heap.size (w.alloc (.cells #[.slice a n cap] 26)))
  clear hi hn
  cases hs : isS l s with
  | false =>
    have HS := Lib.hid hs
    rw [show dlE l s x = -1 by unfold dlE; rw [if_neg (by simp [hs])]]
    clear hs
    go_enter Tryd.func70, Tryd.ntmps70
    go_wp2_with (go_at_call 72; refine (iSetIn _ _ _ _ _ _ HN.out hm HI.out).mono ?_; unfold SetInPost; rw [HS.out]; rintro e w1 ⟨p, q, r, v, rfl, hv, hb1⟩; clear hv)
    go_ret
    exact ⟨rfl, HB.out.trans (Below.alloc (hb1.mono (by simp)) (Nat.le_trans (by simp) hb1.size) _)⟩
  | true =>
    have HS := Lib.hid hs
    obtain ⟨hg, m, rfl, _, hm24⟩ := isS_true hs
    have HT := Lib.hid (tri_grp hg)
    have HLG := Lib.hid (grpB_true hg).1
    have HP := prod_pad (grpB_true hg).1
    have HO := ordN_grp hg
    rw [HP] at HO
    obtain ⟨p, EP⟩ : ∃ p, Hid (l.getD 0 1 = p) := ⟨_, Lib.hid rfl⟩
    obtain ⟨q, EQ⟩ : ∃ q, Hid (l.getD 1 1 = q) := ⟨_, Lib.hid rfl⟩
    obtain ⟨r, ER⟩ : ∃ r, Hid (l.getD 2 1 = r) := ⟨_, Lib.hid rfl⟩
    rw [EP.out, EQ.out, ER.out] at HT HO
    have HM : Hid (m < 16777216) := Lib.hid hm24
    by_cases hk : -100 ≤ x ∧ x ≤ 100
    · have HK : Hid (true = (decide (-100 ≤ x) && decide (x ≤ 100))) := Lib.hid (by simp [hk.1, hk.2])
      rw [show dlE l m x = (orF (fun y => mulN l (y : Int) x) (bitsN m) : Nat) by unfold dlE; rw [if_pos hs, if_pos hk]; rfl]
      rw [dl_tri hg, EP.out, EQ.out, ER.out]
      have K1 := Lib.hid hk.1
      have K2 := Lib.hid hk.2
      clear hs hg hk HP HO hm24
      obtain ⟨O, HOO⟩ : ∃ O : Nat, Hid (orF (dilF p q r x) (bitsN m) = O) := ⟨_, Lib.hid rfl⟩
      have hOlt : O < 16777216 := by rw [← HOO.out]; exact orF_dil_lt HT.out _
      rw [HOO.out]
      go_enter Tryd.func70, Tryd.ntmps70
      go_wp2_with (first
        | (go_at_call 79; refine (iDilate _ _ _ _ x m HT.out HM.out K1.out K2.out B (Nat.le_trans hB0 TA.out.size) (HTZ.out.on (TA.out.mono hB0))).mono ?_; rw [HOO.out]; rintro e w3 ⟨rfl, hb3⟩)
        | (go_at_call 106; refine (iIsMul _ _ _ HK.out).mono ?_; rintro e w9 ⟨rfl, rfl⟩)
        | (go_at_call 72; refine (iSetIn _ _ _ _ _ _ HN.out hm HI.out).mono ?_; unfold SetInPost; rw [HS.out]; rintro e w1 ⟨p', q', r', v', rfl, hv, hb1⟩; obtain ⟨e1, e2, e3, e4⟩ := hv rfl; clear hv; rw [EP.out] at e1; rw [EQ.out] at e2; rw [ER.out] at e3; subst e1 e2 e3 e4; have TA := Lib.hid ((HB.out.trans (hb1.mono (by simp))).alloc (Nat.le_trans (by simp) hb1.size) (.cells #[.int .i64 p', .int .i64 q', .int .i64 r'] 51)); have R7 := Lib.hid (heap_alloc_new w1 (.cells #[.int .i64 p', .int .i64 q', .int .i64 r'] 51))))
      go_ret
      exact ⟨rfl, TA.out.trans (hb3.mono TA.out.size)⟩
    · have HK : Hid (false = (decide (-100 ≤ x) && decide (x ≤ 100))) := Lib.hid (by
        have : ¬ (-100 ≤ x) ∨ ¬ (x ≤ 100) := by omega
        rcases this with h | h <;> simp [h])
      rw [show dlE l m x = -1 by unfold dlE; rw [if_pos hs, if_neg hk]]
      clear hs hg hk HP HO hm24
      go_enter Tryd.func70, Tryd.ntmps70
      go_wp2_with (first
        | (go_at_call 106; refine (iIsMul _ _ _ HK.out).mono ?_; rintro e w9 ⟨rfl, rfl⟩)
        | (go_at_call 72; refine (iSetIn _ _ _ _ _ _ HN.out hm HI.out).mono ?_; unfold SetInPost; rw [HS.out]; rintro e w1 ⟨p', q', r', v', rfl, hv, hb1⟩; obtain ⟨e1, e2, e3, e4⟩ := hv rfl; clear hv; rw [EP.out] at e1; rw [EQ.out] at e2; rw [ER.out] at e3; subst e1 e2 e3 e4; have TA := Lib.hid ((HB.out.trans (hb1.mono (by simp))).alloc (Nat.le_trans (by simp) hb1.size) (.cells #[.int .i64 p', .int .i64 q', .int .i64 r'] 51)); have R7 := Lib.hid (heap_alloc_new w1 (.cells #[.int .i64 p', .int .i64 q', .int .i64 r'] 51))))
      go_ret
      exact ⟨rfl, TA.out⟩
theorem iNegS (w : World) (a : Option Addr) (l : List Int) (n cap : Nat) (s : Int) (hn : n = l.length) (hm : n ≤ 9223372036854775807) (hi : Ints w a l) (B : Nat) (hB0 : B ≤ w.heap.size) (ht : TabZ B w) :
    Calls Tryd.prog 19 #[.agg #[.slice a n cap], .int .i64 s] w fun e w' => e = .returned (.int .i64 (ngE l s)) ∧ Below w.heap.size w w' := by
  have HTZ := Lib.hid ht
  clear ht
  rw [show ngE l s = dlE l s (-1) by unfold ngE dlE negN; split <;> rfl]
  have HI := Lib.hid (ints_alloc hi (.cells #[.slice a n cap] 26))
  have HN := Lib.hid hn
  have C1 := newC w (.slice a n cap) 26 (n := w.heap.size) rfl
  have HB := Lib.hid (Joins.below_alloc1 w (.cells #[.slice a n cap] 26))
  have T0 := Lib.hid (Below.refl (w.alloc (.cells #[.slice a n cap] 26)).heap.size (w.alloc (.cells #[.slice a n cap] 26)))
  clear hi hn
  go_enter Tryd.func19, Tryd.ntmps19
  go_wp2_with (go_at_call 70; refine (iDil _ _ _ _ _ _ _ HN.out hm HI.out B (Nat.le_trans hB0 (by simp)) (HTZ.out.on (HB.out.mono hB0))).mono ?_; rintro e w1 ⟨rfl, hb1⟩)
  go_ret
  exact ⟨rfl, HB.out.trans (hb1.mono (by simp <;> omega))⟩
end Go.Proofs.YthlpjiibjlaebaaDoor
