/- The text of a set by the document's reading: its elements, separated by commas; the word none for the empty set. -/
import Derived.Test.YtkejpikhlejmaaaGreatDoorFmtGI
import Derived.Test.YtkejpikhlejmaaaGreatDoorLSTA
namespace Go.Proofs.YtkejpikhlejmaaaGreatDoor
open Go.RowKit
set_option maxRecDepth 1000000
/-- The text of the first k numbers. -/
def txtC (c : UInt8) (l : List Int) (k : Nat) : List UInt8 := joinC c (l.take k)
theorem txtC_zero (c : UInt8) (l : List Int) : txtC c l 0 = [] := by simp [txtC, joinC, Lib.join]
theorem txtC_one (c : UInt8) (l : List Int) (h : 0 < l.length) : txtC c l 1 = Lib.itoa (l.getD 0 0) := by
  match l, h with
  | x :: t, _ => simp [txtC, joinC, Lib.join]
theorem txtC_succ (c : UInt8) (l : List Int) (k : Nat) (hk : 0 < k) (h : k < l.length) : txtC c l (k + 1) = txtC c l k ++ [c] ++ Lib.itoa (l.getD k 0) := by
  unfold txtC joinC
  rw [List.take_succ_eq_append_getElem h, List.map_append, List.map_cons, List.map_nil]
  have hg : l.getD k 0 = l[k] := by simp [List.getD, h]
  rw [hg]
  match hq : (l.take k).map Lib.itoa with
  | [] =>
    have hlen : ((l.take k).map Lib.itoa).length = k := by rw [List.length_map, List.length_take]; omega
    rw [hq] at hlen
    simp at hlen
    omega
  | x :: r => rw [List.cons_append, Lib.join_cons, Lib.join_cons, tail_snoc]; simp
theorem txtC_full (c : UInt8) (l : List Int) : txtC c l l.length = joinC c l := by unfold txtC; rw [List.take_length]
theorem txtC_len (c : UInt8) (l : List Int) (h : ∀ x ∈ l, 0 ≤ x ∧ x < 100) (h24 : l.length ≤ 24) (k : Nat) : (txtC c l k).length ≤ 528 := by
  have h1 := join_len c (l.take k) (fun x hx => h x (List.mem_of_mem_take hx))
  have h2 : (l.take k).length ≤ l.length := by rw [List.length_take]; omega
  unfold txtC
  omega
theorem joinC_ne (c : UInt8) {l : List Int} (h : l ≠ []) : joinC c l ≠ [] := by
  match l, h with
  | x :: t, _ =>
    unfold joinC
    rw [List.map_cons, Lib.join_cons]
    intro e
    exact itoa_ne x (List.append_eq_nil_iff.1 e).1
theorem lstE_bnd (l : List Int) (s : Int) : ∀ x ∈ lstE l s, 0 ≤ x ∧ x < 100 := fun x hx => by
  unfold lstE at hx
  split at hx
  · rw [List.mem_map] at hx
    obtain ⟨y, hy, rfl⟩ := hx
    have := (upK_mem hy).1
    omega
  · cases hx
/-- The document's text of a set. -/
def fmtS (l : List Int) (s : Int) : List UInt8 := if isS l s = true then (if lstE l s = [] then [110, 111, 110, 101] else joinC 44 (lstE l s)) else []
set_option maxHeartbeats 4000000 in
theorem sFmtS (w : World) (a : Option Addr) (l : List Int) (n cap : Nat) (s : Int) (hn : n = l.length) (hm : n ≤ 9223372036854775807) (hi : Ints w a l) :
    Calls Tryz.prog 10 #[.agg #[.slice a n cap], .int .i64 s] w fun e w' => e = .returned (strV (fmtS l s)) ∧ Below w.heap.size w w' := by
  have HI := Lib.hid (ints_alloc hi (.cells #[.slice a n cap] 26))
  have HN := Lib.hid hn
  have C1 := newC w (.slice a n cap) 26 (n := w.heap.size) rfl
  have HB := Lib.hid (Joins.below_alloc1 w (.cells #[.slice a n cap] 26))
  have T0 := Lib.hid (Below.refl (w.alloc (.cells #[.slice a n cap] 26)).heap.size (w.alloc (.cells #[.slice a n cap] 26)))
  clear hi hn
  have HXB := Lib.hid (lstE_bnd l s)
  have HL24 := Lib.hid (lstE_len l s)
  obtain ⟨bS, HSB⟩ : ∃ b, Hid (isS l s = b) := ⟨_, Lib.hid rfl⟩
  have HE : Hid (fmtS l s = if lstE l s = [] then (if bS = true then [110, 111, 110, 101] else []) else joinC 44 (lstE l s)) := Lib.hid (by
    unfold fmtS
    rw [HSB.out]
    cases hb : bS with
    | true => rw [if_pos rfl, if_pos rfl]
    | false =>
      have h0 : isS l s = false := by rw [HSB.out, hb]
      rw [lstE_no h0]; rfl)
  obtain ⟨XS, HXS⟩ : ∃ XS, Hid (lstE l s = XS) := ⟨_, Lib.hid rfl⟩
  rw [HXS.out] at HXB HL24 HE
  have hm24 := HL24.out
  go_enter Tryz.func10, Tryz.ntmps10
  go_wp2_with (go_at_call 14; refine (sList _ _ _ _ _ _ HN.out hm (HI.out.below rfl T0.out)).mono ?_; rw [HXS.out]; rintro e w2 ⟨v2, rfl, ho2, hb2⟩; obtain ⟨a2, cap2, rfl⟩ := own_slice ho2; have I2 := Lib.hid (own_ints ho2); have T2 := Lib.hid (T0.out.trans (hb2.mono T0.out.size)); have c2 := keepC T2.out (by simp) C1; clear ho2 hb2)
  go_loopw [5, 7] (fun st i wr => ∃ k : Nat, k ≤ XS.length ∧ i = .int .i64 k ∧ st = strV (txtC 44 XS k) ∧ Below w2.heap.size w2 wr) (fun _ i _ => XS.length - (intOf i).toNat)
  case atStart => exact ⟨0, by omega, rfl, by rw [txtC_zero]; rfl, Below.refl _ _⟩
  case round =>
    obtain ⟨k, hk, rfl, rfl, hbel⟩ := hrel
    have c4 := keepC hbel (World.block_lt_of_cell? w2 _ c2) c2
    have T4 := Lib.hid (T2.out.trans (hbel.mono T2.out.size))
    have hlen := txtC_len 44 XS HXB.out HL24.out k
    have hs1 : (bs (txtC 44 XS k)).size ≤ 528 := by rw [bs_size]; exact hlen
    by_cases hlt : k < XS.length
    · rcases I2.out with h0 | ⟨b, off, h1, hbl, hc⟩
      · rw [h0] at hlt; simp at hlt
      · subst h1
        have r1 := keepC hbel hbl (hc k hlt)
        obtain ⟨o1, o2⟩ := at_mem HXB.out hlt
        have HII := Lib.hid (Lib.itoa_length_le (XS.getD k 0) (by omega) (by omega))
        have hs2 : (bs (Lib.itoa (XS.getD k 0))).size ≤ 21 := by rw [bs_size]; exact HII.out
        have hs3 : (bs (txtC 44 XS k) ++ (⟨#[44]⟩ : ByteArray)).size ≤ 529 := by rw [ByteArray.size_append]; exact Nat.add_le_add hs1 (Nat.le_refl 1)
        have hs4 : (⟨#[44]⟩ : ByteArray).size ≤ 1 := Nat.le_refl _
        have HBL := Lib.hid hbel
        clear hc hbl hbel
        by_cases h0 : k = 0
        · subst h0
          have HSS := Lib.hid (txtC_one 44 XS hlt)
          have HZ := Lib.hid (txtC_zero 44 XS)
          rw [Nat.add_zero] at r1
          generalize XS.getD 0 0 = z at *
          go_wp2_with (go_at_call 43; refine (sfmt_any z (by omega) (by omega) _).mono ?_; rintro e w6 ⟨rfl, hb6⟩; have B6 := Lib.hid (HBL.out.trans (hb6.mono HBL.out.size)))
          go_roundw
          case rel => exact ⟨1, by omega, by go_num, by rw [HSS.out, bs_append, HZ.out]; rfl, B6.out⟩
          case measure => simp [intOf]; omega
        · have HSS := Lib.hid (txtC_succ 44 XS k (by omega) hlt)
          have HX : Hid (bs [44] = (⟨#[44]⟩ : ByteArray)) := Lib.hid rfl
          have hk0 : 0 < k := by omega
          clear h0
          generalize XS.getD k 0 = z at *
          go_wp2_with (go_at_call 43; refine (sfmt_any z (by omega) (by omega) _).mono ?_; rintro e w6 ⟨rfl, hb6⟩; have B6 := Lib.hid (HBL.out.trans (hb6.mono HBL.out.size)))
          go_roundw
          case rel => exact ⟨k + 1, by omega, by go_num, by rw [HSS.out, ← HX.out, bs_append, bs_append], B6.out⟩
          case measure => simp [intOf]; omega
    · obtain rfl : k = XS.length := by omega
      have HBL := Lib.hid hbel
      clear hbel
      by_cases h0 : XS = []
      · have HF : Hid (fmtS l s = if bS = true then [110, 111, 110, 101] else []) := Lib.hid (by rw [HE.out, if_pos h0])
        have EE : (bs (txtC 44 XS XS.length)).toList.isEmpty = true := by rw [h0, Lib.toList_data]; rfl
        have HTX : Hid (txtC 44 XS XS.length = []) := Lib.hid (by rw [h0]; rfl)
        clear h0
        cases hbb : bS with
        | true =>
          rw [hbb] at HF HSB
          go_wp2_with (go_at_call 11; refine (sIsSet _ _ _ _ _ _ HN.out hm (HI.out.below rfl T4.out)).mono ?_; rw [HSB.out]; rintro e w5 ⟨rfl, hb5⟩; have T5 := Lib.hid (T4.out.trans (hb5.mono T4.out.size)))
          go_ret
          exact ⟨by rw [HF.out]; rfl, HB.out.trans (T5.out.mono (by simp))⟩
        | false =>
          rw [hbb] at HF HSB
          go_wp2_with (go_at_call 11; refine (sIsSet _ _ _ _ _ _ HN.out hm (HI.out.below rfl T4.out)).mono ?_; rw [HSB.out]; rintro e w5 ⟨rfl, hb5⟩; have T5 := Lib.hid (T4.out.trans (hb5.mono T4.out.size)))
          go_ret
          exact ⟨by rw [HF.out, HTX.out]; rfl, HB.out.trans (T5.out.mono (by simp))⟩
      · have HF : Hid (fmtS l s = joinC 44 XS) := Lib.hid (by rw [HE.out, if_neg h0])
        have HTX := Lib.hid (txtC_full 44 XS)
        have EE : (bs (txtC 44 XS XS.length)).toList.isEmpty = false := by
          rw [Lib.toList_data, HTX.out, bs_list]
          have := joinC_ne 44 h0
          cases hj : joinC 44 XS with
          | nil => exact absurd hj this
          | cons _ _ => rfl
        clear h0
        go_wp2
        go_ret
        exact ⟨by rw [HF.out, HTX.out]; rfl, HB.out.trans (T4.out.mono (by simp))⟩
end Go.Proofs.YtkejpikhlejmaaaGreatDoor
