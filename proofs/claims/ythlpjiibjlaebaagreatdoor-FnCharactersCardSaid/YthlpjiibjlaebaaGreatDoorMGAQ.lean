/- Merged: SumSpec SubSpec. -/
import Derived.Test.YthlpjiibjlaebaaGreatDoorSumMath
import Derived.Test.YthlpjiibjlaebaaGreatDoorMGAL
import Derived.Test.YthlpjiibjlaebaaGreatDoorMGAK
namespace Go.Proofs.YthlpjiibjlaebaaGreatDoor
open Go.RowKit
set_option maxRecDepth 1000000
theorem take_nextG (G : Nat → Nat) (s k : Nat) (h : k < (bitsN s).length) : orG G ((bitsN s).take (k + 1)) = orG G ((bitsN s).take k) ||| G ((bitsN s).getD k 0) := by
  rw [List.take_add_one, List.getElem?_eq_getElem h]
  simp only [Option.toList_some]
  rw [orG_snoc]
  simp [List.getD, List.getElem?_eq_getElem h]
theorem lt24 {x : Nat} (h : x < 2 ^ 24) : x < 16777216 := h
theorem movN_lt24 {l : List Int} (hg : grpB l = true) (a x : Nat) : movN l a x < 2 ^ 24 := grp_pow hg (movN_lt hg a x)
theorem sMov (w : World) (a : Option Addr) (l : List Int) (n cap : Nat) (s y : Nat) (hs : s < 2 ^ 24) (hy : (y : Int) ≤ 23) (hn : n = l.length) (hg : grpB l = true) (hi : Ints w a l) :
    Calls Tryz.prog 94 #[.agg #[.slice a n cap], .int .i64 s, .int .i64 (y : Nat)] w fun e w' => e = .returned (.int .i64 (movN l s y : Nat)) ∧ Below w.heap.size w w' :=
  sShiftL w a l n cap s y hs (by omega) hy hn hg hi
theorem subK_next (l : List Int) (s k : Nat) (h : k < (bitsN s).length) : subK l ((bitsN s).take (k + 1)) = subK l ((bitsN s).take k) ||| movN l (subK l ((bitsN s).take k)) ((bitsN s).getD k 0) := by
  rw [List.take_add_one, List.getElem?_eq_getElem h]
  simp only [Option.toList_some]
  rw [subK_snoc]
  simp [List.getD, List.getElem?_eq_getElem h]
set_option maxHeartbeats 4000000 in
theorem sSumL (w : World) (a : Option Addr) (l : List Int) (n cap : Nat) (s t : Nat) (hs : s < 2 ^ 24) (ht : t < 2 ^ 24) (hn : n = l.length) (hg : grpB l = true) (hi : Ints w a l) :
    Calls Tryz.prog 76 #[.agg #[.slice a n cap], .int .i64 s, .int .i64 t] w fun e w' => e = .returned (.int .i64 (sumN l s t : Nat)) ∧ Below w.heap.size w w' := by
  have HS := Lib.hid hs
  have HC := Lib.hid ht
  have HG := Lib.hid hg
  clear hs ht hg
  have HI := Lib.hid (ints_alloc hi (.cells #[.slice a n cap] 26))
  have HN := Lib.hid hn
  have C1 := newC w (.slice a n cap) 26 (n := w.heap.size) rfl
  have HB := Lib.hid (Joins.below_alloc1 w (.cells #[.slice a n cap] 26))
  have T0 := Lib.hid (Below.refl (w.alloc (.cells #[.slice a n cap] 26)).heap.size (w.alloc (.cells #[.slice a n cap] 26)))
  clear hi hn
  go_enter Tryz.func76, Tryz.ntmps76
  go_wp2_with (go_at_call 54; refine (sL3I _ t HC.out).mono ?_; rintro e w2 ⟨v2, rfl, ho2, hb2⟩; obtain ⟨a2, cap2, rfl⟩ := own_slice ho2; have I2 := Lib.hid (own_ints ho2); have T2 := Lib.hid (T0.out.trans (hb2.mono T0.out.size)); have c2 := keepC T2.out (by simp) C1; clear ho2 hb2)
  go_loopw [7, 9] (fun o i wr => ∃ k : Nat, k ≤ (bitsN t).length ∧ i = .int .i64 k ∧ o = .int .i64 (orG (fun x => movN l s x) ((bitsN t).take k) : Nat) ∧ Below w2.heap.size w2 wr) (fun _ i _ => (bitsN t).length - (intOf i).toNat)
  case atStart => exact ⟨0, Nat.zero_le _, rfl, rfl, Below.refl _ _⟩
  case round =>
    obtain ⟨k, hk, rfl, rfl, hbel⟩ := hrel
    have c4 := keepC hbel (World.block_lt_of_cell? w2 _ c2) c2
    have T4 := Lib.hid (T2.out.trans (hbel.mono T2.out.size))
    have hO : orG (fun x => movN l s x) ((bitsN t).take k) < 2 ^ 24 := grp_pow HG.out (orG_lt _ _ _ (fun x _ => movN_lt HG.out s x))
    have h24 := bits_le t
    have HLN := Lib.hid (LI_len t)
    have hlen : ((LI t).length : Int) = ((bitsN t).length : Int) := by rw [HLN.out]
    by_cases hlt : k < (bitsN t).length
    · have hkl : k < (LI t).length := by rw [HLN.out]; exact hlt
      rcases I2.out with h0 | ⟨b, off, h1, hbl, hc⟩
      · rw [h0] at hkl; simp at hkl
      · subst h1
        have r1 := keepC hbel hbl (hc k hkl)
        rw [LI_at t k hlt] at r1
        have HTN := Lib.hid (take_nextG (fun x => movN l s x) t k hlt)
        have hy := bits_at t k hlt
        obtain ⟨y, HY⟩ : ∃ y, Hid ((bitsN t).getD k 0 = y) := ⟨_, Lib.hid rfl⟩
        rw [HY.out] at HTN hy r1
        obtain ⟨O, HOO⟩ : ∃ O, Hid (orG (fun x => movN l s x) ((bitsN t).take k) = O) := ⟨_, Lib.hid rfl⟩
        rw [HOO.out] at HTN hO
        rw [HOO.out]
        have HO := Lib.hid hO
        have HV0 : movN l s y < 2 ^ 24 := movN_lt24 HG.out s y
        obtain ⟨V, HV⟩ : ∃ V, Hid (movN l s y = V) := ⟨_, Lib.hid rfl⟩
        rw [HV.out] at HV0 HTN
        have HOR := Lib.hid (orI O V (lt24 hO) (Nat.le_of_lt (lt24 HV0)))
        have HORS := HOR.out
        have HBL := Lib.hid hbel
        have hy23 : (y : Int) ≤ 23 := by omega
        clear hc hkl hbel
        have TD := Lib.hid T4.out.drew
        clear hO HV0
        go_wp2
        (first | go_region_with (first | (go_at_call 94; refine (sMov _ _ l _ _ s y HS.out hy23 HN.out HG.out (HI.out.below rfl TD.out)).mono ?_; rw [HV.out]; rintro e w5 ⟨rfl, hb5⟩)) | fail)
        all_goals
          go_wp2
          go_roundw
          case rel => exact ⟨k + 1, by omega, by go_num, by rw [HTN.out], HBL.out.drew.trans (hb5.mono HBL.out.size)⟩
          case measure => simp [intOf]; omega
    · obtain rfl : k = (bitsN t).length := by omega
      have HBL := Lib.hid hbel
      clear hbel hO
      go_wp2
      go_ret
      exact ⟨by rw [List.take_length]; rfl, HB.out.trans ((T2.out.mono (by simp)).trans (HBL.out.mono (Nat.le_trans (by simp) T2.out.size)))⟩
end Go.Proofs.YthlpjiibjlaebaaGreatDoor

namespace Go.Proofs.YthlpjiibjlaebaaGreatDoor
open Go.RowKit
set_option maxRecDepth 1000000
theorem sumN24 {l : List Int} (hg : grpB l = true) (s t : Nat) : sumN l s t < 2 ^ 24 := grp_pow hg (sumN_lt hg s t)
set_option maxHeartbeats 4000000 in
theorem sClo (w : World) (a : Option Addr) (l : List Int) (n cap : Nat) (t c : Nat) (ht : t < 2 ^ 24) (hn : n = l.length) (hg : grpB l = true) (hc : IsClo l t c) (hi : Ints w a l) :
    Calls Tryz.prog 50 #[.agg #[.slice a n cap], .int .i64 t] w fun e w' => e = .returned (.int .i64 (c : Nat)) ∧ Below w.heap.size w w' := by
  have HC := Lib.hid ht
  have HG := Lib.hid hg
  have HCL := Lib.hid hc
  clear ht hg hc
  have HI := Lib.hid (ints_alloc hi (.cells #[.slice a n cap] 26))
  have HN := Lib.hid hn
  have C1 := newC w (.slice a n cap) 26 (n := w.heap.size) rfl
  have HB := Lib.hid (Joins.below_alloc1 w (.cells #[.slice a n cap] 26))
  have T0 := Lib.hid (Below.refl (w.alloc (.cells #[.slice a n cap] 26)).heap.size (w.alloc (.cells #[.slice a n cap] 26)))
  clear hi hn
  obtain ⟨v0, HV0⟩ : ∃ v, Hid (sumN l 1 t = v) := ⟨_, Lib.hid rfl⟩
  have HOR := Lib.hid (show bits .or .i64 1 (v0 : Int) = ((1 ||| v0 : Nat) : Int) from orI 1 v0 (by decide) (Nat.le_of_lt (by have := sumN24 HG.out 1 t; rw [HV0.out] at this; exact lt24 this)))
  have HORS := HOR.out
  have HS1 := Lib.hid (show Calls Tryz.prog 76 #[.agg #[.slice a n cap], .int .i64 1, .int .i64 t] (w.alloc (.cells #[.slice a n cap] 26)) fun e w' => e = .returned (.int .i64 (v0 : Nat)) ∧ Below (w.alloc (.cells #[.slice a n cap] 26)).heap.size (w.alloc (.cells #[.slice a n cap] 26)) w' from by rw [← HV0.out]; exact sSumL _ _ l _ _ 1 t (by decide) HC.out HN.out HG.out (HI.out.below rfl T0.out))
  go_enter Tryz.func50, Tryz.ntmps50
  go_wp2_with (go_at_call 76; refine HS1.out.mono ?_; rintro e w2 ⟨rfl, hb2⟩; have T2 := Lib.hid (T0.out.trans (hb2.mono T0.out.size)); have c2 := keepC T2.out (by simp) C1; clear hb2)
  clear HS1 HOR HORS
  go_loopw [5, 6] (fun o nx wr => ∃ s : Nat, CloInv l t s ∧ o = .int .i64 s ∧ nx = .int .i64 ((s ||| sumN l s t : Nat) : Int) ∧ Below w2.heap.size w2 wr) (fun o _ _ => 2 ^ 24 - (intOf o).toNat)
  case atStart => exact ⟨1, cloInv_one HG.out t, rfl, by rw [HV0.out], Below.refl _ _⟩
  case round =>
    obtain ⟨s, hci, rfl, rfl, hbel⟩ := hrel
    have c4 := keepC hbel (World.block_lt_of_cell? w2 _ c2) c2
    have T4 := Lib.hid (T2.out.trans (hbel.mono T2.out.size))
    have HBL := Lib.hid hbel
    have HCI := Lib.hid hci
    have HM := Lib.hid (cloInv_step HG.out HC.out hci)
    have HE := Lib.hid (fun he => cloInv_end HG.out HC.out hci he)
    obtain ⟨m, hmm⟩ : ∃ m, s ||| sumN l s t = m := ⟨_, rfl⟩
    rw [hmm] at HM HE
    rw [hmm]
    clear hbel hci
    by_cases he : m = s
    · have HR := Lib.hid ((HE.out he).one HCL.out)
      subst he
      clear HE HM hmm
      have hmc := HR.out
      clear HR
      subst hmc
      go_wp2
      go_ret
      exact ⟨rfl, HB.out.trans (T4.out.mono (by simp))⟩
    · have hlt : s < m := by rw [← hmm]; exact or_grow (by rw [hmm]; exact he)
      have hne : ((m : Int) == (s : Int)) = false := by
        have : (m : Int) ≠ (s : Int) := by omega
        simpa using this
      have hm24 := grp_pow HG.out HM.out.lt
      have HM24 := Lib.hid hm24
      obtain ⟨v, HV⟩ : ∃ v, Hid (sumN l m t = v) := ⟨_, Lib.hid rfl⟩
      have HOR := Lib.hid (orI m v (lt24 hm24) (Nat.le_of_lt (by have := sumN24 HG.out m t; rw [HV.out] at this; exact lt24 this)))
      have HORS := HOR.out
      clear HE hmm hm24
      have HLT := Lib.hid hlt
      clear hlt
      go_wp2_with (go_at_call 76; refine (sSumL _ _ l _ _ m t HM24.out HC.out HN.out HG.out (HI.out.below rfl T4.out)).mono ?_; rw [HV.out]; rintro e w5 ⟨rfl, hb5⟩)
      go_roundw
      case rel => exact ⟨m, HM.out, rfl, by rw [HV.out], HBL.out.trans (hb5.mono HBL.out.size)⟩
      case measure =>
        have h1 := HLT.out
        have h2 : m < 16777216 := HM24.out
        simp [intOf]; omega
/-- What a set generates, as a number; -1 for no set. -/
def GenX (l : List Int) (a r : Int) : Prop := (isS l a = true → ∃ c : Nat, r = (c : Int) ∧ IsClo l a.toNat c) ∧ (isS l a = false → r = -1)
theorem genX_ex (l : List Int) (a : Int) : ∃ r, GenX l a r := by
  cases h : isS l a with
  | false => exact ⟨-1, (fun h' => by rw [h] at h'; cases h'), fun _ => rfl⟩
  | true =>
    obtain ⟨hg, s, rfl, _, h24⟩ := isS_true h
    obtain ⟨c, hc⟩ := clo_ex hg h24
    exact ⟨c, fun _ => ⟨c, rfl, by simpa using hc⟩, (fun h' => by rw [h] at h'; cases h')⟩
theorem genX_one {l : List Int} {a r s : Int} (h : GenX l a r) (g : GenX l a s) : r = s := by
  cases hs : isS l a with
  | false => rw [h.2 hs, g.2 hs]
  | true =>
    obtain ⟨c, rfl, hc⟩ := h.1 hs
    obtain ⟨d, rfl, hd⟩ := g.1 hs
    rw [hc.one hd]
/-- Whether a number is a subgroup. -/
def sgB (l : List Int) (a : Int) : Bool := isS l a && (a.toNat.testBit 0 && (bitsN a.toNat).all fun x => (bitsN a.toNat).all fun y => a.toNat.testBit (addN l (y : Int) (x : Int)).toNat)
theorem sgB_no {l : List Int} {a : Int} (h : isS l a = false) : sgB l a = false := by unfold sgB; rw [h]; rfl
theorem sgB_iff {l : List Int} {a : Nat} (hs : isS l (a : Int) = true) : sgB l (a : Int) = true ↔ IsSg l a := by
  obtain ⟨hg, s, e, h1, h24⟩ := isS_true hs
  have e' : a = s := by omega
  subst e'
  unfold sgB IsSg Keeps
  rw [hs, Bool.true_and, Int.toNat_natCast, Bool.and_eq_true, List.all_eq_true]
  constructor
  · rintro ⟨h0, hall⟩
    exact ⟨h1, h0, fun x y hx hy => List.all_eq_true.1 (hall x ((mem_bits h24 x).2 hx)) y ((mem_bits h24 y).2 hy)⟩
  · rintro ⟨_, h0, hall⟩
    exact ⟨h0, fun x hx => List.all_eq_true.2 fun y hy => hall x y ((mem_bits h24 x).1 hx) ((mem_bits h24 y).1 hy)⟩
theorem sgB_clo {l : List Int} {a c : Nat} (hs : isS l (a : Int) = true) (hc : IsClo l a c) : sgB l (a : Int) = ((c : Int) == (a : Int)) := by
  obtain ⟨hg, s, e, h1, h24⟩ := isS_true hs
  have e' : a = s := by omega
  subst e'
  have h := (hc.self hg h1).trans (sgB_iff hs).symm
  cases hb : sgB l (a : Int) with
  | true => rw [h.2 hb]; simp
  | false =>
    have : c ≠ a := fun e => by rw [h.1 e] at hb; cases hb
    symm
    simp
    omega
set_option maxHeartbeats 4000000 in
theorem sIsSub (w : World) (a : Option Addr) (l : List Int) (n cap : Nat) (s : Int) (hn : n = l.length) (hm : n ≤ 9223372036854775807) (hi : Ints w a l) :
    Calls Tryz.prog 16 #[.agg #[.slice a n cap], .int .i64 s] w fun e w' => e = .returned (.bool (sgB l s)) ∧ Below w.heap.size w w' := by
  have HI := Lib.hid (ints_alloc hi (.cells #[.slice a n cap] 26))
  have HN := Lib.hid hn
  have C1 := newC w (.slice a n cap) 26 (n := w.heap.size) rfl
  have HB := Lib.hid (Joins.below_alloc1 w (.cells #[.slice a n cap] 26))
  have T0 := Lib.hid (Below.refl (w.alloc (.cells #[.slice a n cap] 26)).heap.size (w.alloc (.cells #[.slice a n cap] 26)))
  clear hi hn
  cases hs : isS l s with
  | false =>
    have HS := Lib.hid hs
    rw [sgB_no hs]
    clear hs
    go_enter Tryz.func16, Tryz.ntmps16
    go_wp2_with (go_at_call 48; refine (sIsSet _ _ _ _ _ _ HN.out hm (HI.out.below rfl T0.out)).mono ?_; rw [HS.out]; rintro e w1 ⟨rfl, hb1⟩; have T1 := Lib.hid (T0.out.trans (hb1.mono T0.out.size)); have c1 := keepC T1.out (by simp) C1; clear hb1)
    go_ret
    exact ⟨rfl, HB.out.trans (T1.out.mono (by simp))⟩
  | true =>
    have HS := Lib.hid hs
    obtain ⟨hg, s, rfl, _, hs24⟩ := isS_true hs
    obtain ⟨c, hc⟩ := clo_ex hg hs24
    rw [sgB_clo hs hc]
    have HG := Lib.hid hg
    have HA := Lib.hid hs24
    have HC := Lib.hid hc
    clear hs hc hg hs24
    go_enter Tryz.func16, Tryz.ntmps16
    go_wp2_with (first
      | (go_at_call 50; refine (sClo _ _ l _ _ s c HA.out HN.out HG.out HC.out (HI.out.below rfl T1.out)).mono ?_; rintro e w2 ⟨rfl, hb2⟩; have T2 := Lib.hid (T1.out.trans (hb2.mono T1.out.size)); have c2 := keepC T2.out (by simp) C1; clear hb2)
      | (go_at_call 48; refine (sIsSet _ _ _ _ _ _ HN.out hm (HI.out.below rfl T0.out)).mono ?_; rw [HS.out]; rintro e w1 ⟨rfl, hb1⟩; have T1 := Lib.hid (T0.out.trans (hb1.mono T0.out.size)); have c1 := keepC T1.out (by simp) C1; clear hb1))
    go_ret
    exact ⟨rfl, HB.out.trans (T2.out.mono (by simp))⟩
/-- The least element of a set that is not empty. -/
def lowN (a : Nat) : Nat := ((List.range 24).find? fun i => a.testBit i).getD 0
theorem low_is {a : Nat} (h : a < 2 ^ 24) (h0 : a ≠ 0) : lowN a < 24 ∧ a.testBit (lowN a) = true ∧ ∀ i, i < lowN a → a.testBit i = false := by
  unfold lowN
  cases hf : (List.range 24).find? fun i => a.testBit i with
  | none =>
    exfalso
    rw [List.find?_eq_none] at hf
    refine h0 (Nat.eq_of_testBit_eq fun i => ?_)
    rw [Nat.zero_testBit]
    by_cases hi : i < 24
    · simpa using hf i (List.mem_range.2 hi)
    · exact bit_no h i (by omega)
  | some k =>
    rw [List.find?_range_eq_some] at hf
    refine ⟨List.mem_range.1 hf.2.1, hf.1, fun i hi => ?_⟩
    simpa using hf.2.2 i hi
/-- Whether a number is a coset. -/
def cosB (l : List Int) (s : Int) : Bool := isS l s && (decide (0 < s) && sgB l (movN l s.toNat (negN l (lowN s.toNat : Nat)).toNat : Nat))
theorem neg_nat {l : List Int} (hg : grpB l = true) (x : Int) : ∃ u : Nat, negN l x = (u : Int) ∧ (u : Int) ≤ 23 := by
  have h := negN_in (ords_grp hg) x
  have h2 := (ords_grp hg).prod.2
  exact ⟨(negN l x).toNat, by omega, by omega⟩
/-- The least coset that holds a set; -1 for no set or the empty one. -/
def HullX (l : List Int) (s r : Int) : Prop := (isS l s = true → s ≠ 0 → ∃ c : Nat, IsClo l (movN l s.toNat (negN l (lowN s.toNat : Nat)).toNat) c ∧ r = (movN l c (lowN s.toNat) : Nat)) ∧ ((isS l s = false ∨ s = 0) → r = -1)
theorem hullX_ex (l : List Int) (s : Int) : ∃ r, HullX l s r := by
  by_cases h : isS l s = true ∧ s ≠ 0
  · obtain ⟨hg, t, rfl, _, h24⟩ := isS_true h.1
    obtain ⟨c, hc⟩ := clo_ex hg (movN_lt24 hg ((t : Int)).toNat (negN l (lowN ((t : Int)).toNat : Nat)).toNat)
    exact ⟨(movN l c (lowN ((t : Int)).toNat) : Nat), fun _ _ => ⟨c, hc, rfl⟩, fun h' => by rcases h' with h' | h' <;> simp_all⟩
  · exact ⟨-1, fun h1 h2 => absurd ⟨h1, h2⟩ h, fun _ => rfl⟩
end Go.Proofs.YthlpjiibjlaebaaGreatDoor
