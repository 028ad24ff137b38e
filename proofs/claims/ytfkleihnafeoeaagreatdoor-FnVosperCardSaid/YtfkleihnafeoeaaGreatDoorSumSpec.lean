/- Sums of sets by the document's reading: the sum, the difference, multiples, the sums of parts. -/
import Derived.Test.YtfkleihnafeoeaaGreatDoorSumMath
import Derived.Test.YtfkleihnafeoeaaGreatDoorDilSpec
namespace Go.Proofs.YtfkleihnafeoeaaGreatDoor
open Go.RowKit
set_option maxRecDepth 1000000
theorem take_nextG (G : Nat → Nat) (s k : Nat) (h : k < (bitsN s).length) : orG G ((bitsN s).take (k + 1)) = orG G ((bitsN s).take k) ||| G ((bitsN s).getD k 0) := by
  rw [List.take_add_one, List.getElem?_eq_getElem h]
  simp only [Option.toList_some]
  rw [orG_snoc]
  simp [List.getD, List.getElem?_eq_getElem h]
theorem lt24 {x : Nat} (h : x < 2 ^ 24) : x < 16777216 := h
theorem movN_lt24 {l : List Int} (hg : grpB l = true) (a x : Nat) : movN l a x < 2 ^ 24 := grp_pow hg (movN_lt hg a x)
theorem sMov (w : World) (a : Option Addr) (l : List Int) (n cap : Nat) (s y : Nat) (hs : s < 2 ^ 24) (hy : (y : Int) ≤ 23) (hn : n = l.length) (hg : grpB l = true) (hi : Ints w a l) :
    Calls Tryz.prog 67 #[.agg #[.slice a n cap], .int .i64 s, .int .i64 (y : Nat)] w fun e w' => e = .returned (.int .i64 (movN l s y : Nat)) ∧ Below w.heap.size w w' :=
  sShiftL w a l n cap s y hs (by omega) hy hn hg hi
theorem subK_next (l : List Int) (s k : Nat) (h : k < (bitsN s).length) : subK l ((bitsN s).take (k + 1)) = subK l ((bitsN s).take k) ||| movN l (subK l ((bitsN s).take k)) ((bitsN s).getD k 0) := by
  rw [List.take_add_one, List.getElem?_eq_getElem h]
  simp only [Option.toList_some]
  rw [subK_snoc]
  simp [List.getD, List.getElem?_eq_getElem h]
set_option maxHeartbeats 4000000 in
theorem sSumL (w : World) (a : Option Addr) (l : List Int) (n cap : Nat) (s t : Nat) (hs : s < 2 ^ 24) (ht : t < 2 ^ 24) (hn : n = l.length) (hg : grpB l = true) (hi : Ints w a l) :
    Calls Tryz.prog 36 #[.agg #[.slice a n cap], .int .i64 s, .int .i64 t] w fun e w' => e = .returned (.int .i64 (sumN l s t : Nat)) ∧ Below w.heap.size w w' := by
  have HS := Lib.hid hs
  have HC := Lib.hid ht
  have HG := Lib.hid hg
  clear hs ht hg
  have HI := Lib.hid (ints_alloc hi (.cells #[.slice a n cap] 26))
  have HN := Lib.hid hn
  have C1 := newC w (.slice a n cap) 26 (n := w.heap.size) rfl
  have HB := Lib.hid (Joins.below_alloc1 w (.cells #[.slice a n cap] 26))
  have T0 := Lib.hid (Below.refl (w.alloc (.cells #[.slice a n cap] 26)).heap.size (w.alloc (.cells #[.slice a n cap] 26)))
  clear hi hn
  go_enter Tryz.func36, Tryz.ntmps36
  go_wp2_with (go_at_call 41; refine (sL3I _ t HC.out).mono ?_; rintro e w2 ⟨v2, rfl, ho2, hb2⟩; obtain ⟨a2, cap2, rfl⟩ := own_slice ho2; have I2 := Lib.hid (own_ints ho2); have T2 := Lib.hid (T0.out.trans (hb2.mono T0.out.size)); have c2 := keepC T2.out (by simp) C1; clear ho2 hb2)
  go_loopw [7, 9] (fun o i wr => ∃ k : Nat, k ≤ (bitsN t).length ∧ i = .int .i64 k ∧ o = .int .i64 (orG (fun x => movN l s x) ((bitsN t).take k) : Nat) ∧ Below w2.heap.size w2 wr) (fun _ i _ => (bitsN t).length - (intOf i).toNat)
  case atStart => exact ⟨0, Nat.zero_le _, rfl, rfl, Below.refl _ _⟩
  case round =>
    obtain ⟨k, hk, rfl, rfl, hbel⟩ := hrel
    have c4 := keepC hbel (World.block_lt_of_cell? w2 _ c2) c2
    have T4 := Lib.hid (T2.out.trans (hbel.mono T2.out.size))
    have hO : orG (fun x => movN l s x) ((bitsN t).take k) < 2 ^ 24 := grp_pow HG.out (orG_lt _ _ _ (fun x _ => movN_lt HG.out s x))
    have h24 := bits_le t
    have HLN := Lib.hid (LI_len t)
    have hlen : ((LI t).length : Int) = ((bitsN t).length : Int) := by rw [HLN.out]
    by_cases hlt : k < (bitsN t).length
    · have hkl : k < (LI t).length := by rw [HLN.out]; exact hlt
      rcases I2.out with h0 | ⟨b, off, h1, hbl, hc⟩
      · rw [h0] at hkl; simp at hkl
      · subst h1
        have r1 := keepC hbel hbl (hc k hkl)
        rw [LI_at t k hlt] at r1
        have HTN := Lib.hid (take_nextG (fun x => movN l s x) t k hlt)
        have hy := bits_at t k hlt
        obtain ⟨y, HY⟩ : ∃ y, Hid ((bitsN t).getD k 0 = y) := ⟨_, Lib.hid rfl⟩
        rw [HY.out] at HTN hy r1
        obtain ⟨O, HOO⟩ : ∃ O, Hid (orG (fun x => movN l s x) ((bitsN t).take k) = O) := ⟨_, Lib.hid rfl⟩
        rw [HOO.out] at HTN hO
        rw [HOO.out]
        have HO := Lib.hid hO
        have HV0 : movN l s y < 2 ^ 24 := movN_lt24 HG.out s y
        obtain ⟨V, HV⟩ : ∃ V, Hid (movN l s y = V) := ⟨_, Lib.hid rfl⟩
        rw [HV.out] at HV0 HTN
        have HOR := Lib.hid (orI O V (lt24 hO) (Nat.le_of_lt (lt24 HV0)))
        have HORS := HOR.out
        have HBL := Lib.hid hbel
        have hy23 : (y : Int) ≤ 23 := by omega
        clear hc hkl hbel
        have TD := Lib.hid T4.out.drew
        clear hO HV0
        go_wp2
        (first | go_region_with (first | (go_at_call 67; refine (sMov _ _ l _ _ s y HS.out hy23 HN.out HG.out (HI.out.below rfl TD.out)).mono ?_; rw [HV.out]; rintro e w5 ⟨rfl, hb5⟩)) | fail)
        all_goals
          go_wp2
          go_roundw
          case rel => exact ⟨k + 1, by omega, by go_num, by rw [HTN.out], HBL.out.drew.trans (hb5.mono HBL.out.size)⟩
          case measure => simp [intOf]; omega
    · obtain rfl : k = (bitsN t).length := by omega
      have HBL := Lib.hid hbel
      clear hbel hO
      go_wp2
      go_ret
      exact ⟨by rw [List.take_length]; rfl, HB.out.trans ((T2.out.mono (by simp)).trans (HBL.out.mono (Nat.le_trans (by simp) T2.out.size)))⟩
end Go.Proofs.YtfkleihnafeoeaaGreatDoor
