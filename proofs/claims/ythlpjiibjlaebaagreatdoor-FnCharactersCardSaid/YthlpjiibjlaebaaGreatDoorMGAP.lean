/- Merged: PolCyc PolIsZ EqGI. -/
import Derived.Test.YthlpjiibjlaebaaGreatDoorMGAO
import Derived.Test.YthlpjiibjlaebaaGreatDoorPolQuot
import Derived.Test.YthlpjiibjlaebaaGreatDoorMGAD
import Derived.Test.YthlpjiibjlaebaaGreatDoorMGAE
import Derived.Deep.RegionHeld3
import Derived.Deep.DeepCutAuto
namespace Go.Proofs.YthlpjiibjlaebaaGreatDoor
open Go.RowKit
set_option maxRecDepth 1000000
theorem cells_zero7 {N j : Nat} (h : j < N) : (madeCells #[Value.int .i64 0] N).toList[j]? = some (.int .i64 0) := by
  rw [toList_madeCells_one]
  simp [h]
theorem set_other7 {l : List Value} {a b : Nat} {v : Value} (h : a ≠ b) : (l.set a v)[b]? = l[b]? := by simp [h]
theorem own_in7 {w : World} {B n cap : Nat} {a : Option Addr} {l : List Int} (h : w.ownsRow B 3 1 (.slice a n cap) n (l.map (Value.int .i64))) : Ints w a l := by
  have hl : n = l.length := by have := h.1; simpa using this.symm
  subst hl
  exact own_ints h
theorem _root_.Go.World.ownsRow.shrink7 {w : World} {B C n : Nat} {v : Value} {xs : List Value} (h : w.ownsRow B 3 1 v n xs) (hc : C ≤ B) : w.ownsRow C 3 1 v n xs := by
  obtain ⟨h1, h2⟩ := h
  refine ⟨h1, ?_⟩
  rcases h2 with h2 | ⟨g, cap, cur, hv, hb, h3⟩
  · exact .inl h2
  · exact .inr ⟨g, cap, cur, hv, Nat.le_trans hc hb, h3⟩
theorem own_form8 {w : World} {B n : Nat} {v : Value} {xs : List Value} (h : w.ownsRow B 3 1 v n xs) (hn : 0 < n) : ∃ a cap, v = .slice a n cap := by
  obtain ⟨g, c, hv, _⟩ := own_form7 h hn
  exact ⟨_, _, hv⟩
theorem xn1_len (n : Nat) : (xn1 n).length = n + 1 := by simp [xn1]
/-- What a call on one number answers. -/
def CycAt (n : Nat) : Prop := ∀ w : World, Calls Tryz.prog 64 #[.int .i64 n] w fun e w' => ∃ v, e = .returned v ∧ w'.ownsRow w.heap.size 3 1 v (cycL n).length ((cycL n).map (Value.int .i64)) ∧ Below w.heap.size w w'
set_option maxHeartbeats 4000000 in
theorem sCyc : ∀ n : Nat, 0 < n → n ≤ 24 → CycAt n := by
  intro n
  induction n using Nat.strongRecOn with
  | _ n ih =>
    intro hn1 hn24 w
    obtain ⟨i0, hi0, hz0, hz1, hz2⟩ := info_parts intInfo
    have HIH : Hid (∀ k : Nat, 0 < k → k < n → CycAt k) := Lib.hid (fun k h1 h2 => ih k h2 h1 (by omega))
    have HCL : Hid (cycL n = cycK cycL n n) := Lib.hid (cycL_eq n)
    have HQA : Hid (∀ k, 0 < k → k < n → n % k = 0 → (∀ m, -1000 ≤ (cycK cycL n k).getD m 0 ∧ (cycK cycL n k).getD m 0 ≤ 1000) ∧ (∀ m, -1 ≤ (cycL k).getD m 0 ∧ (cycL k).getD m 0 ≤ 1) ∧ (cycK cycL n k).length ≤ 25 ∧ (cycL k).length ≤ (cycK cycL n k).length ∧ 1 ≤ (cycL k).length) := Lib.hid (fun k h1 h2 h3 => quo_at hn24 h1 h2 h3)
    have HCN : Hid (∀ k, 0 < k → n % k = 0 → cycK cycL n (k + 1) = quotP (cycK cycL n k) (cycL k)) := Lib.hid (fun k h1 h2 => by simp only [cycK]; rw [if_neg (by omega), if_pos h2])
    have HCO : Hid (∀ k, 0 < k → n % k ≠ 0 → cycK cycL n (k + 1) = cycK cycL n k) := Lib.hid (fun k h1 h2 => by simp only [cycK]; rw [if_neg (by omega), if_neg h2])
    have HC1 : Hid (cycK cycL n 1 = xn1 n) := Lib.hid (by simp [cycK])
    rw [HCL.out]
    clear ih
    obtain ⟨N, hN⟩ : ∃ N : Nat, n + 1 = N := ⟨_, rfl⟩
    have hNI : (n : Int) + 1 = (N : Int) := by omega
    have hN25 : N ≤ 25 := by omega
    go_enter Tryz.func64, Tryz.ntmps64
    go_wp2_with (at_make; refine wpList_make_full _ rfl _ _ 24 rfl w.heap.size 3 i0 (.int .i64 0) 1 Tryz.underlying24 hi0 hz0 hz1 .i64 .i64 _ _ N rfl rfl (by omega) (by omega) (by rw [hz2]; omega) (by unfold maxLen; omega) (Nat.le_refl _) ?_; intro w5 hown hgrow; have B5 := Lib.hid ((Below.refl w.heap.size w).grown hgrow (Nat.le_refl _) (fun q hq => by cases hq)); rw [Nat.mul_one] at hown; have O5 := Lib.hid hown; have L5 := Lib.hid (hown.lt _ rfl); have f0 := hown.frozenAt 0; have d0 := (hown.cellAt 0 (by omega)).trans (cells_zero7 (show 0 < N by omega)); have O6 := Lib.hid (hown.stored 0 (.int .i64 (-1))).1; have f1 := O6.out.frozenAt n; have d1 := (O6.out.cellAt n (by omega)).trans ((set_other7 (show 0 ≠ n by omega)).trans (cells_zero7 (show n < N by omega))); have O7 := Lib.hid (O6.out.stored n (.int .i64 1)).1; have hnN : (n : Int) < (N : Int) := (by omega); have h0N : (0 : Int) < (N : Int) := (by omega); clear hown hgrow)
    have HX : Hid ((((madeCells (Value.int .i64 0).cells N).toList.set 0 (.int .i64 (-1))).set n (.int .i64 1)) = (cycK cycL n 1).map (Value.int .i64)) := Lib.hid (by
      show (((madeCells #[Value.int .i64 0] N).toList.set 0 (.int .i64 (-1))).set n (.int .i64 1)) = _
      rw [HC1.out, toList_madeCells_one]
      unfold xn1
      rw [List.map_set, List.map_set, hN]
      simp)
    have HXL : Hid ((cycK cycL n 1).length = N) := Lib.hid (by rw [HC1.out, xn1_len, hN])
    rw [HX.out] at O7
    have B7 := Lib.hid (Below.setCell (p := ⟨w.heap.size, n, none⟩) (Below.setCell (p := ⟨w.heap.size, 0, none⟩) B5.out (Nat.le_refl _) (.int .i64 (-1))) (Nat.le_refl _) (.int .i64 1))
    go_loopw [3, 4] (fun v i wr => ∃ k : Nat, 1 ≤ k ∧ k ≤ n ∧ i = .int .i64 k ∧ (∃ a c, v = .slice a (cycK cycL n k).length c) ∧ wr.ownsRow w.heap.size 3 1 v (cycK cycL n k).length ((cycK cycL n k).map (Value.int .i64)) ∧ Below w.heap.size w wr) (fun _ i _ => n - (intOf i).toNat)
    case atStart =>
      refine ⟨1, Nat.le_refl _, by omega, rfl, ⟨_, _, by rw [HXL.out]⟩, ?_, ?_⟩
      · rw [HXL.out]
        first | exact O7.out | simpa using O7.out
      · first | exact B7.out | simpa using B7.out
    case round =>
      obtain ⟨k, hk1, hkn, rfl, ⟨a, c, rfl⟩, hr, hb⟩ := hrel
      have HR := Lib.hid hr
      have HB := Lib.hid hb
      clear hr hb
      by_cases hlt : k < n
      · have ht : Int.tmod (n : Int) (k : Int) = ((n % k : Nat) : Int) := by rw [Int.tmod_eq_emod_of_nonneg (by omega)]; simp
        have hk0 : ((k : Int) == 0) = false := by simp; omega
        have hk0' : ¬ (k : Int) = 0 := by omega
        by_cases hd : n % k = 0
        · have hmod : (n : Int) % (k : Int) = 0 := by have : (((n % k : Nat) : Nat) : Int) = 0 := by omega
                                                      simpa using this
          obtain ⟨q1, q2, q3, q4, q5⟩ := HQA.out k (by omega) hlt hd
          have HN2 := Lib.hid (HCN.out k (by omega) hd)
          have HCK := Lib.hid (HIH.out k (by omega) hlt wr)
          have HQ1 := Lib.hid q1
          have HQ2 := Lib.hid q2
          have HQ3 := Lib.hid q3
          have HQ4 := Lib.hid q4
          have HQ5 := Lib.hid q5
          clear q1 q2 q3 q4 q5 hd
          go_wp2_with (first
            | (go_at_call 86; refine (sQuot _ _ _ (cycK cycL n k) (cycL k) _ _ _ _ rfl rfl (Nat.le_trans HQ5.out HQ4.out) HQ3.out HQ5.out HQ4.out HQ1.out HQ2.out (own_in7 HR6.out) (own_in7 R6.out)).mono ?_; rintro e w7 ⟨v7, rfl, ho7, hb7⟩; rw [← HN2.out] at ho7; obtain ⟨a7, c7, rfl⟩ := own_slice ho7; have HR7 := Lib.hid (ho7.shrink7 (HB6.out.size)); have HB7 := Lib.hid (HB6.out.trans (hb7.mono HB6.out.size)); clear ho7 hb7)
            | (go_at_call 64; refine (HCK.out).mono ?_; rintro e w6 ⟨v6, rfl, ho6, hb6⟩; obtain ⟨a6, c6, rfl⟩ := own_slice ho6; have R6 := Lib.hid ho6; have HR6 := Lib.hid (owns_below HR.out hb6); have HB6 := Lib.hid (HB.out.trans (hb6.mono HB.out.size)); clear ho6 hb6))
          go_roundw
          case rel => exact ⟨k + 1, by omega, by omega, by go_num, ⟨_, _, rfl⟩, HR7.out, HB7.out⟩
          case measure => simp [intOf]; omega
        · have hmod : ((n : Int) % (k : Int) == 0) = false := by
            have : ((n % k : Nat) : Int) ≠ 0 := by omega
            simpa using this
          have HN2 := Lib.hid (HCO.out k (by omega) hd)
          go_wp2
          go_roundw
          case rel => exact ⟨k + 1, by omega, by omega, by go_num, by rw [HN2.out]; exact ⟨_, _, rfl⟩, by rw [HN2.out]; exact HR.out, HB.out⟩
          case measure => simp [intOf]; omega
      · obtain rfl : k = n := by omega
        go_wp2
        go_ret
        exact ⟨_, rfl, HR.out, HB.out⟩
end Go.Proofs.YthlpjiibjlaebaaGreatDoor

namespace Go.Proofs.YthlpjiibjlaebaaGreatDoor
open Go.RowKit
set_option maxRecDepth 1000000
def zeE (l : List Int) (s k : Int) : Bool := ccB l s k && allZ (restP (ccE l s k) (cycL (expN l).toNat))
theorem ccE_yes {l : List Int} {s k : Int} (h : ccB l s k = true) : grpB l = true ∧ (ccE l s k).length = (expN l).toNat ∧ 1 ≤ (expN l).toNat ∧ (expN l).toNat ≤ 24 ∧ ∀ m, -1000 ≤ (ccE l s k).getD m 0 ∧ (ccE l s k).getD m 0 ≤ 1000 := by
  have hg : grpB l = true := by unfold ccB at h; rw [Bool.and_eq_true] at h; exact (isS_true h.1).1
  have he := expN_le hg
  have e : ccE l s k = rowZ (cntZ l k (bitsN s.toNat)) (expN l).toNat := by unfold ccE; rw [if_pos h]
  refine ⟨hg, by rw [e, rowZ_len], by omega, by omega, fun m => ?_⟩
  rw [e]
  by_cases hm : m < (expN l).toNat
  · have : (rowZ (cntZ l k (bitsN s.toNat)) (expN l).toNat).getD m 0 = cntZ l k (bitsN s.toNat) m := by simp [rowZ, List.getD, hm]
    rw [this]
    have h1 := cntZ_bnd l k (bitsN s.toNat) m
    have h2 := bits_le s.toNat
    omega
  · have : (rowZ (cntZ l k (bitsN s.toNat)) (expN l).toNat).getD m 0 = 0 := by
      have hl := rowZ_len (cntZ l k (bitsN s.toNat)) (expN l).toNat
      simp [List.getD, List.getElem?_eq_none (by omega : (rowZ (cntZ l k (bitsN s.toNat)) (expN l).toNat).length ≤ m)]
    rw [this]
    omega
set_option maxHeartbeats 4000000 in
theorem sIsZ (w : World) (a : Option Addr) (l : List Int) (n cap : Nat) (s k : Int) (hn : n = l.length) (hm : n ≤ 9223372036854775807) (hi : Ints w a l) :
    Calls Tryz.prog 36 #[.agg #[.slice a n cap], .int .i64 s, .int .i64 k] w fun e w' => e = .returned (.bool (zeE l s k)) ∧ Below w.heap.size w w' := by
  have HI := Lib.hid (ints_alloc hi (.cells #[.slice a n cap] 26))
  have HN := Lib.hid hn
  have C1 := newC w (.slice a n cap) 26 (n := w.heap.size) rfl
  have HB := Lib.hid (Joins.below_alloc1 w (.cells #[.slice a n cap] 26))
  clear hi hn
  cases hb : ccB l s k with
  | false =>
    have HE : Hid (ccE l s k = []) := Lib.hid (by unfold ccE; rw [if_neg (by simp [hb])])
    rw [show zeE l s k = false by unfold zeE; rw [hb]; rfl]
    clear hb
    go_enter Tryz.func36, Tryz.ntmps36
    go_wp2_with (go_at_call 28; refine (sCC _ _ _ _ _ s k HN.out hm HI.out).mono ?_; rw [HE.out]; rintro e w1 ⟨v1, rfl, ho1, hb1⟩; obtain ⟨a1, c1, rfl⟩ := own_slice ho1; have B1 := Lib.hid hb1; clear ho1 hb1)
    go_ret
    exact ⟨rfl, HB.out.trans (B1.out.mono (by simp))⟩
  | true =>
    obtain ⟨hg, hlen, e1, e24, hbd⟩ := ccE_yes hb
    have hres : zeE l s k = allZ (restP (ccE l s k) (cycL (expN l).toNat)) := by unfold zeE; rw [hb]; rfl
    rw [hres]
    obtain ⟨E, hE⟩ : ∃ E, (expN l).toNat = E := ⟨_, rfl⟩
    rw [hE] at hlen e1 e24 ⊢
    have HL := Lib.hid hlen
    have HBD := Lib.hid hbd
    obtain ⟨c1, c2, c3⟩ := cyc_at (show 0 < E by omega) e24
    have HC1 := Lib.hid c1
    have HC2 := Lib.hid c2
    have HC3 := Lib.hid c3
    have HCY := Lib.hid (sCyc E (by omega) e24)
    obtain ⟨p, HP⟩ : ∃ p, Hid (ccE l s k = p) := ⟨_, Lib.hid rfl⟩
    rw [HP.out] at HL HBD ⊢
    obtain ⟨R, HRR⟩ : ∃ R, Hid (restP p (cycL E) = R) := ⟨_, Lib.hid rfl⟩
    have HRL : Hid (R.length = E) := Lib.hid (by rw [← HRR.out]; unfold restP; rw [restR_len, HL.out])
    rw [HRR.out]
    have HNO : Hid (∀ j, j < E → R.getD j 0 ≠ 0 → allZ R = false) := Lib.hid (fun j hj h => by
      cases hz : allZ R with
      | false => rfl
      | true => exact absurd ((allZ_iff HRL.out).1 hz j hj) h)
    have HAL : Hid ((∀ j, j < E → R.getD j 0 = 0) → allZ R = true) := Lib.hid (fun h => (allZ_iff HRL.out).2 h)
    obtain ⟨zz, hzz⟩ : ∃ z, allZ R = z := ⟨_, rfl⟩
    rw [hzz] at HNO HAL ⊢
    clear hzz
    have hE0 : ((E : Int) == 0) = false := by simp; omega
    have hE63 : E ≤ 9223372036854775807 := by omega
    clear hb hres hg hlen hbd hE c1 c2 c3
    go_enter Tryz.func36, Tryz.ntmps36
    go_wp2_with (first
      | (go_at_call 63; refine (sRest _ _ _ p (cycL E) _ _ _ _ HL.out.symm rfl e1 (by omega) HC3.out (by have := HC2.out; omega) HBD.out HC1.out (own_in7 O2.out) (own_in7 Y2.out)).mono ?_; rw [HRR.out]; rintro e w3 ⟨v3, rfl, ho3, hb3⟩; obtain ⟨a3, c3, rfl⟩ := own_form8 ho3 (by omega); have I3 := Lib.hid (own_in7 ho3); have B3 := Lib.hid (B2.out.trans (hb3.mono B2.out.size)); clear ho3 hb3)
      | (go_at_call 64; refine (HCY.out _).mono ?_; rintro e w2 ⟨v2, rfl, ho2, hb2⟩; obtain ⟨a2, c2, rfl⟩ := own_slice ho2; have Y2 := Lib.hid ho2; have O2 := Lib.hid (owns_below O1.out hb2); have B2 := Lib.hid (B1.out.trans (hb2.mono B1.out.size)); clear ho2 hb2)
      | (go_at_call 28; refine (sCC _ _ _ _ _ s k HN.out hm HI.out).mono ?_; rw [HP.out]; rintro e w1 ⟨v1, rfl, ho1, hb1⟩; rw [HL.out] at ho1; obtain ⟨a1, c1, rfl⟩ := own_form8 ho1 (by omega); have O1 := Lib.hid ho1; have B1 := Lib.hid hb1; clear ho1 hb1))
    go_loopw [9] (fun i wr => ∃ j : Nat, j ≤ E ∧ i = .int .i64 j ∧ Hid (∀ q, q < j → R.getD q 0 = 0) ∧ w3 = wr) (fun i _ => E - (intOf i).toNat)
    case atStart => exact ⟨0, Nat.zero_le _, rfl, Lib.hid (fun q hq => absurd hq (by omega)), rfl⟩
    case round =>
      obtain ⟨j, hj, rfl, HOK, rfl⟩ := hrel
      by_cases hlt : j < E
      · have hjl : j < R.length := by rw [HRL.out]; exact hlt
        rcases I3.out with h0 | ⟨b, off, h1, hbl, hc⟩
        · rw [h0] at hjl; simp at hjl
        · subst h1
          have r1 := hc j hjl
          have HNK := Lib.hid (HNO.out j hlt)
          have HNX : Hid (R.getD j 0 = 0 → ∀ q, q < j + 1 → R.getD q 0 = 0) := Lib.hid (fun h q hq => by
            by_cases hqj : q < j
            · exact HOK.out q hqj
            · obtain rfl : q = j := by omega
              exact h)
          obtain ⟨x, hx⟩ : ∃ x, R.getD j 0 = x := ⟨_, rfl⟩
          rw [hx] at r1 HNK HNX
          clear hc hjl hbl hx
          by_cases h0 : x = 0
          · subst h0
            have HN2 := Lib.hid (HNX.out rfl)
            clear HNK HNX
            go_wp2
            go_roundw
            case rel => exact ⟨j + 1, by omega, by go_num, HN2, by first | trivial | rfl⟩
            case measure => simp [intOf]; omega
          · have hne : (x != 0) = true := by simpa using h0
            have hrr := HNK.out h0
            subst hrr
            go_wp2
            go_ret
            exact ⟨rfl, HB.out.trans (B3.out.mono (by simp))⟩
      · obtain rfl : j = E := by omega
        have hrr := HAL.out HOK.out
        subst hrr
        go_wp2
        go_ret
        exact ⟨rfl, HB.out.trans (B3.out.mono (by simp))⟩
end Go.Proofs.YthlpjiibjlaebaaGreatDoor

namespace Go.Proofs.YthlpjiibjlaebaaGreatDoor
open Go.RowKit
set_option maxRecDepth 1000000
theorem list_same {la lb : List Int} (h : la.length = lb.length) (he : ∀ j, j < la.length → la.getD j 0 = lb.getD j 0) : la = lb := by
  apply List.ext_getElem h
  intro j h1 h2
  have := he j h1
  simpa [List.getD, h1, h2] using this
set_option maxHeartbeats 1000000 in
theorem slEq (w : World) (a b : Option Addr) (la lb : List Int) (n cap m cap2 : Nat) (hn : n = la.length) (hm : m = lb.length) (hl : n ≤ 9223372036854775807) (hl2 : m ≤ 9223372036854775807) (ha : Ints w a la) (hb : Ints w b lb) :
    Calls Tryz.prog 77 #[.slice a n cap, .slice b m cap2] w fun e w' => e = .returned (.bool (decide (la = lb))) ∧ Below w.heap.size w w' := by
  have HN := Lib.hid hn
  have HM := Lib.hid hm
  clear hn hm
  have HA := Lib.hid ha
  have HB := Lib.hid hb
  clear ha hb
  by_cases hnm : n = m
  · subst hnm
    go_enter Tryz.func77, Tryz.ntmps77
    go_wp2
    go_loopw [13] (fun i wr => ∃ k : Nat, k ≤ n ∧ i = .int .i64 k ∧ Hid (∀ j, j < k → la.getD j 0 = lb.getD j 0) ∧ Below w.heap.size w wr) (fun i _ => n - (intOf i).toNat)
    case atStart => exact ⟨0, Nat.zero_le _, rfl, Lib.hid (fun j h => by omega), Below.refl _ _⟩
    case round =>
      obtain ⟨k, hk, rfl, HE, hbel⟩ := hrel
      have hs := hbel.size
      by_cases hlt : k < n
      · have hka : k < la.length := by rw [← HN.out]; exact hlt
        have hkb : k < lb.length := by rw [← HM.out]; exact hlt
        rcases HA.out with h0 | ⟨x, off, h1, hbl, hc⟩
        · rw [h0] at hka; simp at hka
        rcases HB.out with h0 | ⟨x2, off2, h2, hbl2, hc2⟩
        · rw [h0] at hkb; simp at hkb
        subst h1 h2
        have r1 := keepC hbel (by simpa using hbl) (hc k hka)
        have r2 := keepC hbel (by simpa using hbl2) (hc2 k hkb)
        clear hc hc2
        by_cases he : la.getD k 0 = lb.getD k 0
        · have HE2 : Hid (∀ j, j < k + 1 → la.getD j 0 = lb.getD j 0) := Lib.hid (fun j hj => by
            by_cases e : j = k
            · rw [e]; exact he
            · exact HE.out j (by omega))
          rw [← he] at r2
          clear he hka hkb HE
          generalize la.getD k 0 = z at *
          have hz : (z != z) = false := by simp
          go_wp2
          go_quiet (fail)
          go_wp2
          go_roundw
          case rel => exact ⟨k + 1, by omega, by go_num, HE2, hbel.trans (Joins.below_draws _ _ _)⟩
          case measure => simp [intOf]; omega
        · have HF : Hid (decide (la = lb) = false) := Lib.hid (decide_eq_false (fun e => he (by rw [e])))
          have hz : (la.getD k 0 != lb.getD k 0) = true := by simpa using he
          clear he hka hkb HE
          generalize la.getD k 0 = z1 at *
          generalize lb.getD k 0 = z2 at *
          go_wp2
          go_quiet (fail)
          go_wp2
          go_ret
          exact ⟨by rw [HF.out]; rfl, hbel.trans (Joins.below_draws _ _ _)⟩
      · obtain rfl : k = n := by omega
        have HF : Hid (decide (la = lb) = true) := Lib.hid (decide_eq_true (list_same (by rw [← HN.out, ← HM.out]) (by rw [← HN.out]; exact HE.out)))
        go_wp2
        go_ret
        exact ⟨by rw [HF.out]; rfl, hbel⟩
  · have HF : Hid (decide (la = lb) = false) := Lib.hid (decide_eq_false (fun e => hnm (by rw [HN.out, HM.out, e])))
    have hz : ((n : Int) != (m : Int)) = true := by simp; omega
    clear hnm
    go_enter Tryz.func77, Tryz.ntmps77
    go_wp2
    go_ret
    exact ⟨by rw [HF.out]; rfl, Below.refl _ _⟩
end Go.Proofs.YthlpjiibjlaebaaGreatDoor
