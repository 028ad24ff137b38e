/- The document's reading of chapter 6: stabilizers, filling, core parts, quotients. -/
import Derived.Test.YtaacofbmbpkeoaaGreatDoorMGAP
namespace Go.Proofs.YtaacofbmbpkeoaaGreatDoor
open Go.RowKit
set_option maxRecDepth 1000000
set_option maxHeartbeats 4000000 in
theorem sStabL (w : World) (a : Option Addr) (l : List Int) (n cap : Nat) (s : Nat) (hs : s < 2 ^ 24) (hn : n = l.length) (hg : grpB l = true) (hi : Ints w a l) :
    Calls Tryz.prog 48 #[.agg #[.slice a n cap], .int .i64 s] w fun e w' => e = .returned (.int .i64 (stN l s : Nat)) ∧ Below w.heap.size w w' := by
  have HI := Lib.hid (ints_alloc hi (.cells #[.slice a n cap] 26))
  have HN := Lib.hid hn
  have C1 := newC w (.slice a n cap) 26 (n := w.heap.size) rfl
  have HB := Lib.hid (Joins.below_alloc1 w (.cells #[.slice a n cap] 26))
  have T0 := Lib.hid (Below.refl (w.alloc (.cells #[.slice a n cap] 26)).heap.size (w.alloc (.cells #[.slice a n cap] 26)))
  clear hi hn
  have HA := Lib.hid hs
  have hP := (ords_grp hg).prod
  obtain ⟨P, hPe⟩ : ∃ P : Nat, prodI l = (P : Int) := ⟨(prodI l).toNat, by omega⟩
  rw [hPe] at hP
  rw [show stN l s = stK l s P by unfold stN; rw [hPe, Int.toNat_natCast]]
  have HP := Lib.hid hPe
  have hP24 : P ≤ 24 := by omega
  have HG := Lib.hid hg
  clear hs hg hP hPe
  go_enter Tryz.func48, Tryz.ntmps48
  go_wp2
  go_loopw [5, 6] (fun o i wr => ∃ k : Nat, k ≤ P ∧ i = .int .i64 k ∧ o = .int .i64 (stK l s k : Nat) ∧ Below (w.alloc (.cells #[.slice a n cap] 26)).heap.size (w.alloc (.cells #[.slice a n cap] 26)) wr) (fun _ i _ => P - (intOf i).toNat)
  case atStart => exact ⟨0, Nat.zero_le _, rfl, rfl, T0.out⟩
  case round =>
    obtain ⟨k, hk, rfl, rfl, hbel⟩ := hrel
    have c4 := keepC hbel (by simp) C1
    have HIr := Lib.hid (HI.out.below rfl hbel)
    have HBL := Lib.hid hbel
    clear hbel
    by_cases hlt : k < P
    · have hk23 : (k : Int) ≤ 23 := by omega
      have HY := Lib.hid (fun h => stK_yes (l := l) (s := s) (k := k) h)
      have HZ := Lib.hid (fun h => stK_no (l := l) (s := s) (k := k) h)
      have hS24 : stK l s k < 16777216 := stK_lt24 l s (by omega)
      obtain ⟨S, hSS⟩ : ∃ S, stK l s k = S := ⟨_, rfl⟩
      obtain ⟨V, hV⟩ : ∃ V, movN l s k = V := ⟨_, rfl⟩
      have HV := Lib.hid hV
      rw [hSS] at HY HZ hS24
      rw [hSS]
      rw [hV] at HY HZ
      have HOR := Lib.hid (or_step (O := S) (V := (k : Int)) hS24 (by omega) hk23)
      rw [Int.toNat_natCast] at HOR
      have HORS := HOR.out
      clear hSS hV hS24
      by_cases hvs : V = s
      · have E1 := Lib.hid (HY.out hvs)
        have HV := Lib.hid (HV.out.trans hvs)
        clear HY HZ hvs
        go_wp2_with (first
          | (go_at_call 75; refine (sMov _ _ l _ _ s k HA.out hk23 HN.out HG.out HI5.out).mono ?_; rw [HV.out]; rintro e w6 ⟨rfl, hb6⟩)
          | (go_at_call 44; refine (sOrder _ _ l _ _ HN.out HG.out HIr.out).mono ?_; rw [HP.out]; rintro e w5 ⟨rfl, hb5⟩; have HI5 := Lib.hid (HIr.out.below rfl hb5); have c5 := keepC hb5 (World.block_lt_of_cell? wr _ c4) c4))
        go_roundw
        case rel => exact ⟨k + 1, by omega, by go_num, by rw [E1.out], HBL.out.trans ((hb5.trans (hb6.mono hb5.size)).mono HBL.out.size)⟩
        case measure => simp [intOf]; omega
      · have E1 := Lib.hid (HZ.out hvs)
        have hne : ((V : Int) == (s : Int)) = false := by
          have : (V : Int) ≠ (s : Int) := by omega
          simpa using this
        clear HY HZ HOR HORS
        go_wp2_with (first
          | (go_at_call 75; refine (sMov _ _ l _ _ s k HA.out hk23 HN.out HG.out HI5.out).mono ?_; rw [HV.out]; rintro e w6 ⟨rfl, hb6⟩)
          | (go_at_call 44; refine (sOrder _ _ l _ _ HN.out HG.out HIr.out).mono ?_; rw [HP.out]; rintro e w5 ⟨rfl, hb5⟩; have HI5 := Lib.hid (HIr.out.below rfl hb5); have c5 := keepC hb5 (World.block_lt_of_cell? wr _ c4) c4))
        go_roundw
        case rel => exact ⟨k + 1, by omega, by go_num, by rw [E1.out], HBL.out.trans ((hb5.trans (hb6.mono hb5.size)).mono HBL.out.size)⟩
        case measure => simp [intOf]; omega
    · obtain rfl : k = P := by omega
      go_wp2_with (go_at_call 44; refine (sOrder _ _ l _ _ HN.out HG.out HIr.out).mono ?_; rw [HP.out]; rintro e w5 ⟨rfl, hb5⟩)
      go_ret
      exact ⟨rfl, HB.out.trans ((HBL.out.trans (hb5.mono HBL.out.size)).mono (by simp))⟩
theorem cosE_no {l : List Int} {h : Int} (e : sgB l h = false) : cosE l h = [] := by unfold cosE; rw [if_neg (by simp [e])]
theorem cosE_yes {l : List Int} {h : Nat} (e : sgB l (h : Int) = true) : cosE l (h : Int) = cosL l h (repsK l h (prodI l).toNat) := by unfold cosE; rw [if_pos e, Int.toNat_natCast]
theorem reps24 {l : List Int} (hg : grpB l = true) (h : Nat) : (repsK l h (prodI l).toNat).length ≤ 24 := by
  have h1 := reps_len l h (prodI l).toNat
  have h2 := (ords_grp hg).prod
  omega
theorem quoE_no {l : List Int} {h s : Int} (e : quoB l h s = false) : quoE l h s = [] := by unfold quoE; rw [if_neg (by simp [e])]
/-- The quotient's counts as numbers. -/
def quoL (l : List Int) (h s : Nat) (R : List Nat) : List Int := (quoK l h s R).map (fun (x : Nat) => (x : Int))
theorem quoL_len (l : List Int) (h s : Nat) (R : List Nat) : (quoL l h s R).length = R.length := by simp [quoL, quoK]
theorem quoL_next {l : List Int} {h s : Nat} {R : List Nat} {k : Nat} (hk : k < R.length) : quoL l h s (R.take (k + 1)) = quoL l h s (R.take k) ++ [(((bitsN (movN l h (R.getD k 0) &&& s)).length : Nat) : Int)] := by
  unfold quoL
  rw [quo_next hk, List.map_append]
  rfl
theorem quoE_yes {l : List Int} {h s : Nat} (e : quoB l (h : Int) (s : Int) = true) : quoE l (h : Int) (s : Int) = quoL l h s (repsK l h (prodI l).toNat) := by
  unfold quoE quoL
  rw [if_pos e, Int.toNat_natCast, Int.toNat_natCast]
end Go.Proofs.YtaacofbmbpkeoaaGreatDoor
