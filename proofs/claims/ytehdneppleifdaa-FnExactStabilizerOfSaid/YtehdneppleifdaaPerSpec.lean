/- The document's reading of chapter 6: stabilizers, filling, core parts, quotients. -/
import Derived.Test.YtehdneppleifdaaPerDef
namespace Go.Proofs.Ytehdneppleifdaa
open Go.RowKit
set_option maxRecDepth 1000000
set_option maxHeartbeats 4000000 in
theorem sStabL (w : World) (a : Option Addr) (l : List Int) (n cap : Nat) (s : Nat) (hs : s < 2 ^ 24) (hn : n = l.length) (hg : grpB l = true) (hi : Ints w a l) :
    Calls Try.prog 14 #[.agg #[.slice a n cap], .int .i64 s] w fun e w' => e = .returned (.int .i64 (stN l s : Nat)) ∧ Below w.heap.size w w' := by
  have HI := Lib.hid (ints_alloc hi (.cells #[.slice a n cap] 27))
  have HN := Lib.hid hn
  have C1 := newC w (.slice a n cap) 27 (n := w.heap.size) rfl
  have HB := Lib.hid (Joins.below_alloc1 w (.cells #[.slice a n cap] 27))
  have T0 := Lib.hid (Below.refl (w.alloc (.cells #[.slice a n cap] 27)).heap.size (w.alloc (.cells #[.slice a n cap] 27)))
  clear hi hn
  have HA := Lib.hid hs
  have hP := (ords_grp hg).prod
  obtain ⟨P, hPe⟩ : ∃ P : Nat, prodI l = (P : Int) := ⟨(prodI l).toNat, by omega⟩
  rw [hPe] at hP
  rw [show stN l s = stK l s P by unfold stN; rw [hPe, Int.toNat_natCast]]
  have HP := Lib.hid hPe
  have hP24 : P ≤ 24 := by omega
  have HG := Lib.hid hg
  clear hs hg hP hPe
  go_enter Try.func14, Try.ntmps14
  go_wp2
  go_loopw [5, 6] (fun o i wr => ∃ k : Nat, k ≤ P ∧ i = .int .i64 k ∧ o = .int .i64 (stK l s k : Nat) ∧ Below (w.alloc (.cells #[.slice a n cap] 27)).heap.size (w.alloc (.cells #[.slice a n cap] 27)) wr) (fun _ i _ => P - (intOf i).toNat)
  case atStart => exact ⟨0, Nat.zero_le _, rfl, rfl, T0.out⟩
  case round =>
    obtain ⟨k, hk, rfl, rfl, hbel⟩ := hrel
    have c4 := keepC hbel (by simp) C1
    have HIr := Lib.hid (HI.out.below rfl hbel)
    have HBL := Lib.hid hbel
    clear hbel
    by_cases hlt : k < P
    · have hk23 : (k : Int) ≤ 23 := by omega
      have HY := Lib.hid (fun h => stK_yes (l := l) (s := s) (k := k) h)
      have HZ := Lib.hid (fun h => stK_no (l := l) (s := s) (k := k) h)
      have hS24 : stK l s k < 16777216 := stK_lt24 l s (by omega)
      obtain ⟨S, hSS⟩ : ∃ S, stK l s k = S := ⟨_, rfl⟩
      obtain ⟨V, hV⟩ : ∃ V, movN l s k = V := ⟨_, rfl⟩
      have HV := Lib.hid hV
      rw [hSS] at HY HZ hS24
      rw [hSS]
      rw [hV] at HY HZ
      have HOR := Lib.hid (or_step (O := S) (V := (k : Int)) hS24 (by omega) hk23)
      rw [Int.toNat_natCast] at HOR
      have HORS := HOR.out
      clear hSS hV hS24
      by_cases hvs : V = s
      · have E1 := Lib.hid (HY.out hvs)
        have HV := Lib.hid (HV.out.trans hvs)
        clear HY HZ hvs
        go_wp2_with (first
          | (go_at_call 22; refine (sMov _ _ l _ _ s k HA.out hk23 HN.out HG.out HI5.out).mono ?_; rw [HV.out]; rintro e w6 ⟨rfl, hb6⟩)
          | (go_at_call 21; refine (sOrder _ _ l _ _ HN.out HG.out HIr.out).mono ?_; rw [HP.out]; rintro e w5 ⟨rfl, hb5⟩; have HI5 := Lib.hid (HIr.out.below rfl hb5); have c5 := keepC hb5 (World.block_lt_of_cell? wr _ c4) c4))
        go_roundw
        case rel => exact ⟨k + 1, by omega, by go_num, by rw [E1.out], HBL.out.trans ((hb5.trans (hb6.mono hb5.size)).mono HBL.out.size)⟩
        case measure => simp [intOf]; omega
      · have E1 := Lib.hid (HZ.out hvs)
        have hne : ((V : Int) == (s : Int)) = false := by
          have : (V : Int) ≠ (s : Int) := by omega
          simpa using this
        clear HY HZ HOR HORS
        go_wp2_with (first
          | (go_at_call 22; refine (sMov _ _ l _ _ s k HA.out hk23 HN.out HG.out HI5.out).mono ?_; rw [HV.out]; rintro e w6 ⟨rfl, hb6⟩)
          | (go_at_call 21; refine (sOrder _ _ l _ _ HN.out HG.out HIr.out).mono ?_; rw [HP.out]; rintro e w5 ⟨rfl, hb5⟩; have HI5 := Lib.hid (HIr.out.below rfl hb5); have c5 := keepC hb5 (World.block_lt_of_cell? wr _ c4) c4))
        go_roundw
        case rel => exact ⟨k + 1, by omega, by go_num, by rw [E1.out], HBL.out.trans ((hb5.trans (hb6.mono hb5.size)).mono HBL.out.size)⟩
        case measure => simp [intOf]; omega
    · obtain rfl : k = P := by omega
      go_wp2_with (go_at_call 21; refine (sOrder _ _ l _ _ HN.out HG.out HIr.out).mono ?_; rw [HP.out]; rintro e w5 ⟨rfl, hb5⟩)
      go_ret
      exact ⟨rfl, HB.out.trans ((HBL.out.trans (hb5.mono HBL.out.size)).mono (by simp))⟩
set_option maxHeartbeats 4000000 in
theorem sStab (w : World) (a : Option Addr) (l : List Int) (n cap : Nat) (s : Int) (hn : n = l.length) (hm : n ≤ 9223372036854775807) (hi : Ints w a l) :
    Calls Try.prog 6 #[.agg #[.slice a n cap], .int .i64 s] w fun e w' => e = .returned (.int .i64 (stE l s)) ∧ Below w.heap.size w w' := by
  have HI := Lib.hid (ints_alloc hi (.cells #[.slice a n cap] 27))
  have HN := Lib.hid hn
  have C1 := newC w (.slice a n cap) 27 (n := w.heap.size) rfl
  have HB := Lib.hid (Joins.below_alloc1 w (.cells #[.slice a n cap] 27))
  have T0 := Lib.hid (Below.refl (w.alloc (.cells #[.slice a n cap] 27)).heap.size (w.alloc (.cells #[.slice a n cap] 27)))
  clear hi hn
  cases hs : isS l s with
  | false =>
    have HS := Lib.hid hs
    rw [show stE l s = -1 by unfold stE; rw [if_neg (by simp [hs])]]
    clear hs
    go_enter Try.func6, Try.ntmps6
    go_wp2_with (go_at_call 13; refine (sIsSet _ _ _ _ _ _ HN.out hm (HI.out.below rfl T0.out)).mono ?_; rw [HS.out]; rintro e w1 ⟨rfl, hb1⟩; have T1 := Lib.hid (T0.out.trans (hb1.mono T0.out.size)); have c1 := keepC T1.out (by simp) C1)
    go_ret
    exact ⟨rfl, HB.out.trans (T1.out.mono (by simp))⟩
  | true =>
    have HS := Lib.hid hs
    obtain ⟨hg, s, rfl, hsn, hs24⟩ := isS_true hs
    rw [show stE l (s : Int) = ((stN l s : Nat) : Int) by unfold stE; rw [if_pos hs, Int.toNat_natCast]]
    have HG := Lib.hid hg
    have HA := Lib.hid hs24
    clear hs hg hs24 hsn
    go_enter Try.func6, Try.ntmps6
    go_wp2_with (first
      | (go_at_call 14; refine (sStabL _ _ l _ _ s HA.out HN.out HG.out (HI.out.below rfl T1.out)).mono ?_; rintro e w2 ⟨rfl, hb2⟩; have T2 := Lib.hid (T1.out.trans (hb2.mono T1.out.size)); have c2 := keepC T2.out (by simp) C1)
      | (go_at_call 13; refine (sIsSet _ _ _ _ _ _ HN.out hm (HI.out.below rfl T0.out)).mono ?_; rw [HS.out]; rintro e w1 ⟨rfl, hb1⟩; have T1 := Lib.hid (T0.out.trans (hb1.mono T0.out.size)); have c1 := keepC T1.out (by simp) C1))
    go_ret
    exact ⟨rfl, HB.out.trans (T2.out.mono (by simp))⟩
set_option maxHeartbeats 4000000 in
theorem sPer (w : World) (a : Option Addr) (l : List Int) (n cap : Nat) (s : Int) (hn : n = l.length) (hm : n ≤ 9223372036854775807) (hi : Ints w a l) :
    Calls Try.prog 10 #[.agg #[.slice a n cap], .int .i64 s] w fun e w' => e = .returned (.bool (perB l s)) ∧ Below w.heap.size w w' := by
  have HI := Lib.hid (ints_alloc hi (.cells #[.slice a n cap] 27))
  have HN := Lib.hid hn
  have C1 := newC w (.slice a n cap) 27 (n := w.heap.size) rfl
  have HB := Lib.hid (Joins.below_alloc1 w (.cells #[.slice a n cap] 27))
  have T0 := Lib.hid (Below.refl (w.alloc (.cells #[.slice a n cap] 27)).heap.size (w.alloc (.cells #[.slice a n cap] 27)))
  clear hi hn
  cases hs : isS l s with
  | false =>
    have HS := Lib.hid hs
    rw [show perB l s = false by unfold perB; rw [hs]; rfl]
    clear hs
    go_enter Try.func10, Try.ntmps10
    go_wp2_with (go_at_call 13; refine (sIsSet _ _ _ _ _ _ HN.out hm (HI.out.below rfl T0.out)).mono ?_; rw [HS.out]; rintro e w1 ⟨rfl, hb1⟩; have T1 := Lib.hid (T0.out.trans (hb1.mono T0.out.size)); have c1 := keepC T1.out (by simp) C1)
    go_ret
    exact ⟨rfl, HB.out.trans (T1.out.mono (by simp))⟩
  | true =>
    have HS := Lib.hid hs
    obtain ⟨hg, s, rfl, hsn, hs24⟩ := isS_true hs
    rw [show perB l (s : Int) = decide (1 < stN l s) by unfold perB; rw [hs, Int.toNat_natCast]; rfl]
    have HG := Lib.hid hg
    have HA := Lib.hid hs24
    obtain ⟨S, HSS⟩ : ∃ S, Hid (stN l s = S) := ⟨_, Lib.hid rfl⟩
    rw [HSS.out]
    clear hs hg hs24 hsn
    go_enter Try.func10, Try.ntmps10
    go_wp2_with (first
      | (go_at_call 14; refine (sStabL _ _ l _ _ s HA.out HN.out HG.out (HI.out.below rfl T1.out)).mono ?_; rw [HSS.out]; rintro e w2 ⟨rfl, hb2⟩; have T2 := Lib.hid (T1.out.trans (hb2.mono T1.out.size)); have c2 := keepC T2.out (by simp) C1)
      | (go_at_call 13; refine (sIsSet _ _ _ _ _ _ HN.out hm (HI.out.below rfl T0.out)).mono ?_; rw [HS.out]; rintro e w1 ⟨rfl, hb1⟩; have T1 := Lib.hid (T0.out.trans (hb1.mono T0.out.size)); have c1 := keepC T1.out (by simp) C1))
    go_ret
    exact ⟨by go_num, HB.out.trans (T2.out.mono (by simp))⟩
theorem cosE_no {l : List Int} {h : Int} (e : sgB l h = false) : cosE l h = [] := by unfold cosE; rw [if_neg (by simp [e])]
theorem cosE_yes {l : List Int} {h : Nat} (e : sgB l (h : Int) = true) : cosE l (h : Int) = cosL l h (repsK l h (prodI l).toNat) := by unfold cosE; rw [if_pos e, Int.toNat_natCast]
theorem reps24 {l : List Int} (hg : grpB l = true) (h : Nat) : (repsK l h (prodI l).toNat).length ≤ 24 := by
  have h1 := reps_len l h (prodI l).toNat
  have h2 := (ords_grp hg).prod
  omega
theorem quoE_no {l : List Int} {h s : Int} (e : quoB l h s = false) : quoE l h s = [] := by unfold quoE; rw [if_neg (by simp [e])]
/-- The quotient's counts as numbers. -/
def quoL (l : List Int) (h s : Nat) (R : List Nat) : List Int := (quoK l h s R).map (fun (x : Nat) => (x : Int))
theorem quoL_len (l : List Int) (h s : Nat) (R : List Nat) : (quoL l h s R).length = R.length := by simp [quoL, quoK]
theorem quoL_next {l : List Int} {h s : Nat} {R : List Nat} {k : Nat} (hk : k < R.length) : quoL l h s (R.take (k + 1)) = quoL l h s (R.take k) ++ [(((bitsN (movN l h (R.getD k 0) &&& s)).length : Nat) : Int)] := by
  unfold quoL
  rw [quo_next hk, List.map_append]
  rfl
theorem quoE_yes {l : List Int} {h s : Nat} (e : quoB l (h : Int) (s : Int) = true) : quoE l (h : Int) (s : Int) = quoL l h s (repsK l h (prodI l).toNat) := by
  unfold quoE quoL
  rw [if_pos e, Int.toNat_natCast, Int.toNat_natCast]
end Go.Proofs.Ytehdneppleifdaa
