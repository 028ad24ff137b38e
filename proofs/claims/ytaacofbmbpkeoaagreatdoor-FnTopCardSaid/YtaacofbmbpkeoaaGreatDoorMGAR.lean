/- Merged: SumK GenI. -/
import Derived.Test.YtaacofbmbpkeoaaGreatDoorMGAM
import Derived.Test.YtaacofbmbpkeoaaGreatDoorMGAP
namespace Go.Proofs.YtaacofbmbpkeoaaGreatDoor
open Go.RowKit
set_option maxRecDepth 1000000
theorem iSetsIn_no (w : World) (a : Option Addr) (l : List Int) (n cap : Nat) (s t : Int) (hn : n = l.length) (hm : n ≤ 9223372036854775807) (hi : Ints w a l) (h : two l s t = false) :
    Calls Tryz.prog 39 #[.agg #[.slice a n cap], .int .i64 s, .int .i64 t] w fun e w' => ∃ p q r u v, e = .returned (.tuple #[tV p q r, .int .u64 u, .int .u64 v, .bool false]) ∧ Below w.heap.size w w' := by
  have := iSetsIn w a l n cap s t hn hm hi
  unfold SetsInPost at this
  rw [h] at this
  exact this.mono fun e w' ⟨p, q, r, u, v, h1, _, h3⟩ => ⟨p, q, r, u, v, h1, h3⟩
theorem iSetsIn_yes (w : World) (a : Option Addr) (l : List Int) (n cap : Nat) (s t : Int) (hn : n = l.length) (hm : n ≤ 9223372036854775807) (hi : Ints w a l) (h : two l s t = true) :
    Calls Tryz.prog 39 #[.agg #[.slice a n cap], .int .i64 s, .int .i64 t] w fun e w' => e = .returned (.tuple #[tV (l.getD 0 1) (l.getD 1 1) (l.getD 2 1), .int .u64 s, .int .u64 t, .bool true]) ∧ Below w.heap.size w w' := by
  have := iSetsIn w a l n cap s t hn hm hi
  unfold SetsInPost at this
  rw [h] at this
  exact this.mono fun e w' ⟨p, q, r, u, v, h1, h2, h3⟩ => by
    obtain ⟨rfl, rfl, rfl, rfl, rfl⟩ := h2 rfl
    exact ⟨h1, h3⟩
/-- Both are sets: what is known of them. -/
theorem two_true {l : List Int} {s t : Int} (h : two l s t = true) : grpB l = true ∧ ∃ a b : Nat, s = (a : Int) ∧ t = (b : Int) ∧ a < 2 ^ (prodI l).toNat ∧ b < 2 ^ (prodI l).toNat := by
  unfold two at h
  rw [Bool.and_eq_true] at h
  obtain ⟨hg, a, h1, h2, _⟩ := isS_true h.1
  obtain ⟨_, b, h3, h4, _⟩ := isS_true h.2
  exact ⟨hg, a, b, h1, h3, h2, h4⟩
theorem shG_mov {l : List Int} (hg : grpB l = true) (t x : Nat) : shG (l.getD 0 1) (l.getD 1 1) (l.getD 2 1) t x = movN l t x := (sh_tri hg (x : Int) (bitsN t)).symm
theorem sum_prog {l : List Int} (hg : grpB l = true) {s t : Nat} (hs : s < 2 ^ (prodI l).toNat) (ht : t < 2 ^ (prodI l).toNat) :
    orG (fun x => shG (l.getD 0 1) (l.getD 1 1) (l.getD 2 1) t x) (bitsN s) = sumN l s t := by
  rw [orG_congr _ (fun x => movN l t x) _ (fun x _ => shG_mov hg t x)]
  exact sumN_comm l (grp_pow hg ht) (grp_pow hg hs)
theorem dif_sum (l : List Int) (s t : Int) : sumE l s (ngE l t) = difE l s t := by
  cases ht : isS l t with
  | false =>
    have e : ngE l t = -1 := by unfold ngE; rw [if_neg (by simp [ht])]
    unfold sumE difE two
    rw [e, isS_neg (l := l) (show (-1 : Int) < 0 by decide), ht, Bool.and_false, if_neg (by simp), if_neg (by simp)]
  | true =>
    obtain ⟨hg, t, rfl, htn, _⟩ := isS_true ht
    have e : ngE l (t : Int) = ((ngN l t : Nat) : Int) := by unfold ngE; rw [if_pos ht]; rfl
    unfold sumE difE two
    rw [e, isS_of hg (ngN_lt hg t), ht]; rfl
set_option maxHeartbeats 4000000 in
theorem iSumS (w : World) (a : Option Addr) (l : List Int) (n cap : Nat) (s t : Int) (hn : n = l.length) (hm : n ≤ 9223372036854775807) (hi : Ints w a l) (B : Nat) (hB0 : B ≤ w.heap.size) (ht : TabZ B w) :
    Calls Tryz.prog 7 #[.agg #[.slice a n cap], .int .i64 s, .int .i64 t] w fun e w' => e = .returned (.int .i64 (sumE l s t)) ∧ Below w.heap.size w w' := by
  have HTZ := Lib.hid ht
  clear ht
  have HI := Lib.hid (ints_alloc hi (.cells #[.slice a n cap] 26))
  have HN := Lib.hid hn
  have C1 := newC w (.slice a n cap) 26 (n := w.heap.size) rfl
  have HB := Lib.hid (Joins.below_alloc1 w (.cells #[.slice a n cap] 26))
  have T0 := Lib.hid (Below.refl (w.alloc (.cells #[.slice a n cap] 26)).heap.size (w.alloc (.cells #[.slice a n cap] 26)))
  clear hi hn
  cases hs : two l s t with
  | false =>
    have HS := Lib.hid hs
    rw [show sumE l s t = -1 by unfold sumE; rw [if_neg (by simp [hs])]]
    clear hs
    go_enter Tryz.func7, Tryz.ntmps7
    go_wp2_with (go_at_call 39; refine (iSetsIn_no _ _ _ _ _ _ _ HN.out hm (HI.out.below rfl T0.out) HS.out).mono ?_; rintro e w1 ⟨p, q, r, u, v, rfl, hb1⟩)
    go_ret
    exact ⟨rfl, HB.out.trans (Below.alloc (hb1.mono (by simp)) (Nat.le_trans (by simp) hb1.size) _)⟩
  | true =>
    have HS := Lib.hid hs
    obtain ⟨hg, s, t, rfl, rfl, hsn, htn⟩ := two_true hs
    rw [show sumE l s t = (sumN l s t : Nat) by unfold sumE; rw [if_pos hs]; rfl]
    have HT := Lib.hid (tri_grp hg)
    have HP := prod_pad (grpB_true hg).1
    have HV := Lib.hid (sum_prog hg hsn htn)
    have hVl : sumN l s t < 16777216 := grp_pow hg (sumN_lt hg s t)
    rw [HP] at hsn htn
    obtain ⟨p, EP⟩ : ∃ p, Hid (l.getD 0 1 = p) := ⟨_, Lib.hid rfl⟩
    obtain ⟨q, EQ⟩ : ∃ q, Hid (l.getD 1 1 = q) := ⟨_, Lib.hid rfl⟩
    obtain ⟨r, ER⟩ : ∃ r, Hid (l.getD 2 1 = r) := ⟨_, Lib.hid rfl⟩
    rw [EP.out, EQ.out, ER.out] at HT HV hsn htn
    have HA := Lib.hid hsn
    have HC := Lib.hid htn
    obtain ⟨V, EV⟩ : ∃ V, Hid (sumN l s t = V) := ⟨_, Lib.hid rfl⟩
    rw [EV.out] at HV hVl
    rw [EV.out]
    clear hs hg HP hsn htn
    go_enter Tryz.func7, Tryz.ntmps7
    go_wp2_with (first
      | (go_at_call 40; refine (iSum _ p q r s t HT.out HA.out HC.out B (Nat.le_trans hB0 TA.out.size) (HTZ.out.on (TA.out.mono hB0))).mono ?_; rw [HV.out]; rintro e w2 ⟨rfl, hb2⟩)
      | (go_at_call 39; refine (iSetsIn_yes _ _ _ _ _ _ _ HN.out hm (HI.out.below rfl T0.out) HS.out).mono ?_; rw [EP.out, EQ.out, ER.out]; rintro e w1 ⟨rfl, hb1⟩; have TA := Lib.hid ((HB.out.trans (hb1.mono (by simp))).alloc (Nat.le_trans (by simp) hb1.size) (.cells #[.int .i64 p, .int .i64 q, .int .i64 r] 41)); obtain ⟨y0, y1, y2, _, _, _⟩ := trip_cell (heap_alloc_new w1 (.cells #[.int .i64 p, .int .i64 q, .int .i64 r] 41))))
    go_ret
    exact ⟨rfl, TA.out.trans (hb2.mono TA.out.size)⟩
theorem pow_prog {l : List Int} (hg : grpB l = true) {s : Nat} (hs : s < 2 ^ (prodI l).toNat) (k : Nat) :
    orG (fun x => shG (l.getD 0 1) (l.getD 1 1) (l.getD 2 1) s x) (bitsN (powS l s k)) = powS l s (k + 1) := sum_prog hg (powS_lt hg s k) hs
end Go.Proofs.YtaacofbmbpkeoaaGreatDoor

namespace Go.Proofs.YtaacofbmbpkeoaaGreatDoor
open Go.RowKit Go.Shelf
attribute [local go_sem] Oper.semAt_some
set_option maxRecDepth 1000000
theorem orU' {a b n : Nat} (hn : n ≤ 24) (ha : a < 2 ^ n) (hb : b < 2 ^ n) : bits .or .u64 (a : Int) (b : Int) = ((a ||| b : Nat) : Int) := by
  have h := Nat.pow_le_pow_right (show 0 < 2 by decide) hn
  exact orU a b (Nat.lt_of_lt_of_le ha h) (Nat.lt_of_lt_of_le hb h)
/-- The program's shift of a set, by the group's places. -/
theorem iMov {l : List Int} (hg : grpB l = true) (w : World) (s x : Nat) (hs : s < 2 ^ (prodI l).toNat) (hx : (x : Int) < prodI l) :
    Calls Tryz.prog 60 #[tV (l.getD 0 1) (l.getD 1 1) (l.getD 2 1), .int .u64 s, .int .i64 x] w fun e w' => e = .returned (.int .u64 (movN l s x : Nat)) ∧ Below w.heap.size w w' := by
  have HP := prod_pad (grpB_true hg).1
  have h := iShG w (l.getD 0 1) (l.getD 1 1) (l.getD 2 1) s x (tri_grp hg) (by rw [← HP]; exact hs) (by rw [← HP]; exact hx)
  rw [shG_mov hg] at h
  exact h
set_option maxHeartbeats 4000000 in
theorem iExtend {l : List Int} (hg : grpB l = true) (w : World) (a s x c : Nat) (ha : a < 2 ^ (prodI l).toNat) (hc : IsClo l a s) (hx : (x : Int) < prodI l) (hc2 : IsClo l (a ||| 2 ^ x) c) :
    Calls Tryz.prog 104 #[tV (l.getD 0 1) (l.getD 1 1) (l.getD 2 1), .int .u64 s, .int .i64 x] w fun e w' => e = .returned (.int .u64 (c : Nat)) ∧ Below w.heap.size w w' := by
  obtain ⟨m, m1, m2, m3⟩ := cosK_first hg hc.lt x
  have HM2 := Lib.hid m2
  have HEND := Lib.hid (fun k (h1 : 1 ≤ k) (hk : cosK l s x k = s) => (ext_clo (x := x) hg ha hc h1 hk).one hc2)
  have HIX := Lib.hid (fun k (h1 : 1 ≤ k) (h2 : k ≤ m) => idxK_at hg hc.lt m3 h1 h2)
  have HSH := Lib.hid (fun (W : World) (t : Nat) (ht : t < 2 ^ (prodI l).toNat) => iMov hg W t x ht hx)
  have HN24 : Hid ((prodI l).toNat ≤ 24) := Lib.hid (by have := (ords_grp hg).prod.2; omega)
  have HEX := Lib.hid (fun k => extK_lt hg s x k)
  have HCK := Lib.hid (fun k => cosK_lt hg s x k)
  have HSU := Lib.hid (fun k => cosK_succ hg (grp_pow hg hc.lt) x k)
  have HS := Lib.hid hc.lt
  have HE1 := Lib.hid (extK_one hg hc.lt x)
  have HC1 := Lib.hid (show movN l s x = cosK l s x 1 by rw [← cosK_succ hg (grp_pow hg hc.lt), cosK_zero hg hc.lt])
  obtain ⟨p, EP⟩ : ∃ p, Hid (l.getD 0 1 = p) := ⟨_, Lib.hid rfl⟩
  obtain ⟨q, EQ⟩ : ∃ q, Hid (l.getD 1 1 = q) := ⟨_, Lib.hid rfl⟩
  obtain ⟨r, ER⟩ : ∃ r, Hid (l.getD 2 1 = r) := ⟨_, Lib.hid rfl⟩
  rw [EP.out, EQ.out, ER.out] at HSH
  rw [EP.out, EQ.out, ER.out]
  obtain ⟨F, HF⟩ : ∃ F, Hid (cosK l s x = F) := ⟨_, Lib.hid rfl⟩
  obtain ⟨E, HE⟩ : ∃ E, Hid (extK l s x = E) := ⟨_, Lib.hid rfl⟩
  obtain ⟨X, HX⟩ : ∃ X, Hid (idxK l s x m = X) := ⟨_, Lib.hid rfl⟩
  have HES := Lib.hid (fun k => extK_succ l s x k)
  rw [HF.out] at HM2 HEND HIX HCK HSU HC1 HES
  rw [HE.out] at HEND HEX HE1 HES
  rw [HX.out] at HIX
  clear ha hc hx hc2 m2 m3 hg
  have HAL := Lib.hid (heap_alloc_new w (.cells #[.int .i64 p, .int .i64 q, .int .i64 r] 41))
  go_enter Tryz.func104, Tryz.ntmps104
  go_wp2_with (go_at_call 60; refine (HSH.out _ s HS.out).mono ?_; rw [HC1.out]; rintro e w1 ⟨rfl, hb1⟩)
  go_loopw [7, 8] (fun o c wr => ∃ k : Nat, 1 ≤ k ∧ k ≤ m ∧ o = .int .u64 (E k : Nat) ∧ c = .int .u64 (F k : Nat) ∧ Below (w.alloc (.cells #[.int .i64 p, .int .i64 q, .int .i64 r] 41)).heap.size (w.alloc (.cells #[.int .i64 p, .int .i64 q, .int .i64 r] 41)) wr) (fun _ c _ => m - X (intOf c))
  case atStart => exact ⟨1, Nat.le_refl _, m1, by rw [HE1.out], rfl, hb1⟩
  case round =>
    obtain ⟨k, k1, km, rfl, rfl, hbel⟩ := hrel
    obtain ⟨c0, c1, c2, _, _, _⟩ := trip_cell (keepH hbel (by simp) HAL.out)
    have HBL := Lib.hid hbel
    have HF1 := Lib.hid (HCK.out k)
    have HEk := Lib.hid (HEX.out k)
    have HOR := Lib.hid (orU' HN24.out HEk.out HF1.out)
    have HIk := Lib.hid (HIX.out k k1 km)
    have HE := Lib.hid (HEND.out k k1)
    have HSk := Lib.hid (HSU.out k)
    have HEk1 := Lib.hid (HES.out k)
    obtain ⟨u, hu⟩ : ∃ u, F k = u := ⟨_, rfl⟩
    obtain ⟨v, hv⟩ : ∃ v, E k = v := ⟨_, rfl⟩
    have HU := Lib.hid hu
    rw [hu] at HF1 HOR HIk HE HSk HEk1
    rw [hv] at HEk HOR HE HEk1
    rw [hu, hv]
    by_cases he : u = s
    · have hc := HE.out he
      have HCC := Lib.hid hc
      clear hbel HE HSU HES HEX HCK HIX HEND hc hu hv
      subst he
      go_wp2
      go_ret
      exact ⟨by first | rfl | (rw [HCC.out]; rfl), (Joins.below_alloc1 w _).trans (HBL.out.mono (by simp))⟩
    · have hne : ((u : Int) == (s : Int)) = false := by
        have : (u : Int) ≠ (s : Int) := by omega
        simpa using this
      have hlt : k < m := by
        rcases Nat.lt_or_ge k m with h | h
        · exact h
        · obtain rfl : k = m := by omega
          exact absurd (hu.symm.trans HM2.out) he
      have HI1 := Lib.hid (HIX.out (k + 1) (by omega) (by omega))
      have HORS := HOR.out
      clear hbel HE hu hv he
      go_wp2_with (go_at_call 60; refine (HSH.out _ u HF1.out).mono ?_; rw [HSk.out]; rintro e w5 ⟨rfl, hb5⟩)
      go_roundw
      case rel => exact ⟨k + 1, by omega, by omega, by rw [HEk1.out], rfl, HBL.out.trans (hb5.mono HBL.out.size)⟩
      case measure =>
        have h1 := HI1.out
        have h2 := HIk.out
        simp only [intOf]
        omega
end Go.Proofs.YtaacofbmbpkeoaaGreatDoor
