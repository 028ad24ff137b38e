/- Sums of sets by the document's reading, continued: sums of different elements, the table of counts. -/
import Derived.Test.YthlpjiibjlaebaaDoorSumSpec
namespace Go.Proofs.YthlpjiibjlaebaaDoor
open Go.RowKit
set_option maxRecDepth 1000000
/-- The sums of x with the first elements of t, x itself left out. -/
def rowR (l : List Int) (t x j : Nat) : Nat := orF (fun y => addN l (y : Int) (x : Int)) (((bitsN t).take j).filter (fun y => decide (y ≠ x)))
theorem rowR_zero (l : List Int) (t x : Nat) : rowR l t x 0 = 0 := rfl
theorem rowR_same (l : List Int) (t x j : Nat) (h : j < (bitsN t).length) (e : (bitsN t).getD j 0 = x) : rowR l t x (j + 1) = rowR l t x j := by
  unfold rowR
  rw [List.take_add_one, List.getElem?_eq_getElem h]
  simp only [Option.toList_some, List.filter_append]
  have : (bitsN t)[j] = x := by rw [← e]; simp [List.getD, List.getElem?_eq_getElem h]
  simp [this]
theorem rowR_next (l : List Int) (t x j : Nat) (h : j < (bitsN t).length) (e : (bitsN t).getD j 0 ≠ x) : rowR l t x (j + 1) = rowR l t x j ||| 2 ^ (addN l (((bitsN t).getD j 0 : Nat) : Int) (x : Int)).toNat := by
  unfold rowR
  rw [List.take_add_one, List.getElem?_eq_getElem h]
  simp only [Option.toList_some, List.filter_append]
  have e2 : (bitsN t).getD j 0 = (bitsN t)[j] := by simp [List.getD, List.getElem?_eq_getElem h]
  rw [e2] at e ⊢
  have : [(bitsN t)[j]].filter (fun y => decide (y ≠ x)) = [(bitsN t)[j]] := by simp [e]
  rw [this, orF_snoc]
theorem rowR_full (l : List Int) (t x : Nat) : rowR l t x (bitsN t).length = movN l (woN t x) x := by
  unfold rowR movN
  rw [List.take_length, ← bits_wo]
theorem rowR_lt {l : List Int} (hg : grpB l = true) (t x j : Nat) : rowR l t x j < 2 ^ 24 :=
  orF_lt _ _ 24 (fun y _ => by have := addN_bnd hg (y : Int) (x : Int); omega)
set_option maxHeartbeats 4000000 in
theorem sRst (w : World) (a : Option Addr) (l : List Int) (n cap : Nat) (s t : Int) (hn : n = l.length) (hm : n ≤ 9223372036854775807) (hi : Ints w a l) :
    Calls Tryd.prog 16 #[.agg #[.slice a n cap], .int .i64 s, .int .i64 t] w fun e w' => e = .returned (.int .i64 (rstE l s t)) ∧ Below w.heap.size w w' := by
  have HI := Lib.hid (ints_alloc hi (.cells #[.slice a n cap] 26))
  have HN := Lib.hid hn
  have C1 := newC w (.slice a n cap) 26 (n := w.heap.size) rfl
  have HB := Lib.hid (Joins.below_alloc1 w (.cells #[.slice a n cap] 26))
  have T0 := Lib.hid (Below.refl (w.alloc (.cells #[.slice a n cap] 26)).heap.size (w.alloc (.cells #[.slice a n cap] 26)))
  clear hi hn
  cases hs : isS l s with
  | false =>
    have HS := Lib.hid hs
    rw [show rstE l s t = -1 by unfold rstE two; rw [hs]; rfl]
    clear hs
    go_enter Tryd.func16, Tryd.ntmps16
    go_wp2_with (first
      | (go_at_call 64; refine (sIsSet _ _ _ _ _ _ HN.out hm (HI.out.below rfl T0.out)).mono ?_; rw [HS.out]; rintro e w1 ⟨rfl, hb1⟩; have T1 := Lib.hid (T0.out.trans (hb1.mono T0.out.size)); have c1 := keepC T1.out (by simp) C1))
    go_ret
    exact ⟨rfl, HB.out.trans (T1.out.mono (by simp))⟩
  | true =>
    have HS := Lib.hid hs
    cases ht : isS l t with
    | false =>
      have HS2 := Lib.hid ht
      rw [show rstE l s t = -1 by unfold rstE two; rw [hs, ht]; rfl]
      clear hs ht
      go_enter Tryd.func16, Tryd.ntmps16
      go_wp2_with (first
        | (go_at_call 64; have hx_ := T1; clear hx_; refine (sIsSet _ _ _ _ _ _ HN.out hm (HI.out.below rfl T1.out)).mono ?_; rw [HS2.out]; rintro e w2 ⟨rfl, hb2⟩; have T2 := Lib.hid (T1.out.trans (hb2.mono T1.out.size)); have c2 := keepC T2.out (by simp) C1)
        | (go_at_call 64; refine (sIsSet _ _ _ _ _ _ HN.out hm (HI.out.below rfl T0.out)).mono ?_; rw [HS.out]; rintro e w1 ⟨rfl, hb1⟩; have T1 := Lib.hid (T0.out.trans (hb1.mono T0.out.size)); have c1 := keepC T1.out (by simp) C1))
      go_ret
      exact ⟨rfl, HB.out.trans (T2.out.mono (by simp))⟩
    | true =>
      have HS2 := Lib.hid ht
      obtain ⟨hg, s, rfl, _, hs24⟩ := isS_true hs
      obtain ⟨_, t, rfl, _, ht24⟩ := isS_true ht
      rw [show rstE l s t = (rstN l s t : Nat) by unfold rstE two; rw [hs, ht]; rfl]
      have HG := Lib.hid hg
      have HA := Lib.hid hs24
      have HC := Lib.hid ht24
      clear hs ht hg hs24 ht24
      have HG := HG
      have h24s := bits_le s
      have h24t := bits_le t
      obtain ⟨F, HF⟩ : ∃ F, Hid ((fun x => movN l (woN t x) x) = F) := ⟨_, Lib.hid rfl⟩
      have HFV : Hid (∀ x, movN l (woN t x) x = F x) := Lib.hid (fun x => by rw [← HF.out])
      have HRV : Hid (rstN l s t = orG F (bitsN s)) := Lib.hid (by unfold rstN; rw [HF.out])
      rw [HRV.out]
      go_enter Tryd.func16, Tryd.ntmps16
      go_wp2_with (first
        | (go_at_call 66; have hx_ := T3; clear hx_; refine (sL3I _ t HC.out).mono ?_; rintro e w4 ⟨v4, rfl, ho4, hb4⟩; obtain ⟨a4, cap4, rfl⟩ := own_slice ho4; have I4 := Lib.hid (own_ints ho4); have T4 := Lib.hid (T3.out.trans (hb4.mono T3.out.size)); have c4 := keepC T4.out (by simp) C1; have HB4 := Lib.hid hb4; clear ho4)
        | (go_at_call 66; refine (sL3I _ s HA.out).mono ?_; rintro e w3 ⟨v3, rfl, ho3, hb3⟩; obtain ⟨a3, cap3, rfl⟩ := own_slice ho3; have I3 := Lib.hid (own_ints ho3); have T3 := Lib.hid (T2.out.trans (hb3.mono T2.out.size)); have c3 := keepC T3.out (by simp) C1; have HB3 := Lib.hid hb3; clear ho3)
        | (go_at_call 64; have hx_ := T1; clear hx_; refine (sIsSet _ _ _ _ _ _ HN.out hm (HI.out.below rfl T1.out)).mono ?_; rw [HS2.out]; rintro e w2 ⟨rfl, hb2⟩; have T2 := Lib.hid (T1.out.trans (hb2.mono T1.out.size)); have c2 := keepC T2.out (by simp) C1)
        | (go_at_call 64; refine (sIsSet _ _ _ _ _ _ HN.out hm (HI.out.below rfl T0.out)).mono ?_; rw [HS.out]; rintro e w1 ⟨rfl, hb1⟩; have T1 := Lib.hid (T0.out.trans (hb1.mono T0.out.size)); have c1 := keepC T1.out (by simp) C1))
      go_loopw [7, 10] (fun o i wr => ∃ k : Nat, k ≤ (bitsN s).length ∧ i = .int .i64 k ∧ o = .int .i64 (orG F ((bitsN s).take k) : Nat) ∧ Below w4.heap.size w4 wr) (fun _ i _ => (bitsN s).length - (intOf i).toNat)
      case atStart => exact ⟨0, Nat.zero_le _, rfl, rfl, Below.refl _ _⟩
      case round =>
        obtain ⟨k, hk, rfl, rfl, hbel⟩ := hrel
        have HLN := Lib.hid (LI_len s)
        have HLT := Lib.hid (LI_len t)
        have hlen : ((LI s).length : Int) = ((bitsN s).length : Int) := by rw [HLN.out]
        have hlent : ((LI t).length : Int) = ((bitsN t).length : Int) := by rw [HLT.out]
        have HBL := Lib.hid hbel
        by_cases hlt : k < (bitsN s).length
        · have hkl : k < (LI s).length := by rw [HLN.out]; exact hlt
          rcases I3.out with h0 | ⟨b, off, h1, hbl, hc⟩
          · rw [h0] at hkl; simp at hkl
          · subst h1
            have HR1 := Lib.hid (keepC HB4.out hbl (hc k hkl))
            have HBLK : Hid (b < w4.heap.size) := Lib.hid (Nat.lt_of_lt_of_le hbl HB4.out.size)
            have hx23 := bits_at s k hlt
            have HTN := Lib.hid (take_nextG F s k hlt)
            rw [LI_at s k hlt] at HR1
            obtain ⟨x, HX⟩ : ∃ y, Hid ((bitsN s).getD k 0 = y) := ⟨_, Lib.hid rfl⟩
            rw [HX.out] at HTN hx23 HR1
            have HO : Hid (orG F ((bitsN s).take k) < 2 ^ 24) := Lib.hid (orG_lt _ _ _ (fun x _ => by rw [← HFV.out]; exact movN_lt24 HG.out _ x))
            obtain ⟨O, HOO⟩ : ∃ O, Hid (orG F ((bitsN s).take k) = O) := ⟨_, Lib.hid rfl⟩
            rw [HOO.out] at HTN HO
            rw [HOO.out]
            have HRL : Hid (∀ j, rowR l t x j < 2 ^ 24) := Lib.hid (fun j => rowR_lt HG.out t x j)
            have HRF : Hid (rowR l t x (bitsN t).length = F x) := Lib.hid (by rw [rowR_full, HFV.out])
            have HR0 : Hid (rowR l t x 0 = 0) := Lib.hid (rowR_zero l t x)
            have HRS : Hid (∀ j, j < (bitsN t).length → (bitsN t).getD j 0 = x → rowR l t x (j + 1) = rowR l t x j) := Lib.hid (fun j h e => rowR_same l t x j h e)
            have HRN : Hid (∀ j, j < (bitsN t).length → (bitsN t).getD j 0 ≠ x → rowR l t x (j + 1) = rowR l t x j ||| 2 ^ (addN l (((bitsN t).getD j 0 : Nat) : Int) (x : Int)).toNat) := Lib.hid (fun j h e => rowR_next l t x j h e)
            obtain ⟨R, HR⟩ : ∃ R, Hid (rowR l t x = R) := ⟨_, Lib.hid rfl⟩
            rw [HR.out] at HRL HRF HR0 HRS HRN
            clear hc hkl hbel hk
            have hx0 : (0 : Int) ≤ (x : Int) := by omega
            have hx23' : (x : Int) ≤ 23 := by omega
            go_wp2
            go_loopw [7, 11] (fun o i wi => ∃ j : Nat, j ≤ (bitsN t).length ∧ i = .int .i64 j ∧ o = .int .i64 (O ||| R j : Nat) ∧ Below w4.heap.size w4 wi) (fun _ i _ => (bitsN t).length - (intOf i).toNat)
            case atStart => exact ⟨0, Nat.zero_le _, rfl, by rw [HR0.out]; simp, HBL.out⟩
            case round =>
              obtain ⟨j, hj, rfl, rfl, hbi⟩ := hrel
              have HBI := Lib.hid hbi
              have r1 := keepC hbi HBLK.out HR1.out
              by_cases hjt : j < (bitsN t).length
              · have hjl : j < (LI t).length := by rw [HLT.out]; exact hjt
                rcases I4.out with h0 | ⟨b2, off2, h2, hbl2, hc2⟩
                · rw [h0] at hjl; simp at hjl
                · subst h2
                  have r2 := keepC hbi hbl2 (hc2 j hjl)
                  rw [LI_at t j hjt] at r2
                  have hy23 := bits_at t j hjt
                  have hs1 := HRS.out j hjt
                  have hn1 := HRN.out j hjt
                  obtain ⟨y, HY⟩ : ∃ y, Hid ((bitsN t).getD j 0 = y) := ⟨_, Lib.hid rfl⟩
                  rw [HY.out] at r2 hy23 hs1 hn1
                  clear hc2 hjl hbi
                  by_cases hyx : y = x
                  · have HE := Lib.hid (hs1 hyx)
                    subst hyx
                    have hz : (((y : Nat) : Int) != ((y : Nat) : Int)) = false := by simp
                    clear hs1 hn1
                    go_wp2
                    go_quiet (fail)
                    go_wp2
                    go_roundw
                    case rel => exact ⟨j + 1, by omega, by go_num, by rw [HE.out], HBI.out.trans (Joins.below_draws _ _ _)⟩
                    case measure => simp [intOf]; omega
                  · have HE := Lib.hid (hn1 hyx)
                    have hz : (((x : Nat) : Int) != ((y : Nat) : Int)) = true := by simp; omega
                    clear hs1 hn1
                    have hV := addN_bnd HG.out (y : Int) (x : Int)
                    have HCM : Hid (addN l (x : Int) (y : Int) = addN l (y : Int) (x : Int)) := Lib.hid (addN_comm l x y)
                    obtain ⟨V, HV⟩ : ∃ V, Hid (addN l (y : Int) (x : Int) = V) := ⟨_, Lib.hid rfl⟩
                    rw [HV.out] at HE hV HCM
                    obtain ⟨v1, v2⟩ := hV
                    obtain ⟨A, HA2⟩ : ∃ A, Hid (O ||| R j = A) := ⟨_, Lib.hid rfl⟩
                    have hAl : A < 16777216 := by rw [← HA2.out]; exact Nat.or_lt_two_pow HO.out (HRL.out j)
                    have HOR := Lib.hid (or_step hAl v1 v2)
                    have HNX : Hid (O ||| R (j + 1) = A ||| 2 ^ V.toNat) := Lib.hid (by rw [HE.out, ← HA2.out, Nat.or_assoc])
                    rw [HA2.out]
                    have hy0 : (0 : Int) ≤ (y : Int) := by omega
                    have hy23' : (y : Int) ≤ 23 := by omega
                    have c5 := keepC HBI.out (World.block_lt_of_cell? w4 _ c4) c4
                    have TI := Lib.hid (T4.out.trans (HBI.out.mono T4.out.size))
                    have hVN : V.toNat ≤ 23 := by omega
                    clear hyx hAl
                    go_wp2
                    go_quiet (fail)
                    go_wp2
                    have TD := Lib.hid (TI.out.trans (Joins.below_draws _ _ nq)).drew
                    have BD := Lib.hid (HBI.out.trans (Joins.below_draws _ _ nq)).drew
                    (first | go_region_with (first | (go_at_call 67; refine (sAdd _ _ l _ _ (x : Int) (y : Int) hx0 hx23' hy0 hy23' HN.out HG.out (HI.out.below rfl TD.out)).mono ?_; rw [HCM.out]; rintro e w5 ⟨rfl, hb5⟩)) | fail)
                    all_goals
                      go_wp2
                      go_roundw
                      case rel => exact ⟨j + 1, by omega, by go_num, by rw [HOR.out, HNX.out], BD.out.trans (hb5.mono BD.out.size)⟩
                      case measure => simp [intOf]; omega
              · obtain rfl : j = (bitsN t).length := by omega
                clear hbi
                go_wp2
                go_roundw
                case rel => exact ⟨k + 1, by omega, by go_num, by rw [HTN.out, HRF.out], HBI.out⟩
                case measure => simp [intOf]; omega
        · obtain rfl : k = (bitsN s).length := by omega
          clear hbel
          go_wp2
          go_ret
          exact ⟨by rw [List.take_length]; rfl, HB.out.trans ((T4.out.mono (by simp)).trans (HBL.out.mono (Nat.le_trans (by simp) T4.out.size)))⟩
end Go.Proofs.YthlpjiibjlaebaaDoor
