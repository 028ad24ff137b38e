/- The contract of spec.ParseSet. -/
import Derived.Test.YtkejpikhlejmaaaGreatDoorParSI
import Derived.Test.YtkejpikhlejmaaaGreatDoorParGS
import Derived.Test.YtkejpikhlejmaaaGreatDoorDILA
import Derived.Test.YtkejpikhlejmaaaGreatDoorFmtSI
namespace Go.Proofs.YtkejpikhlejmaaaGreatDoor
open Go.RowKit
set_option maxRecDepth 1000000
theorem sl_end (l : List Int) (cur : List UInt8) (a : Nat) : specSL l cur a [] = if (accB cur && isE l (resV cur)) = true then some (a ||| 2 ^ (resV cur).toNat) else none := rfl
theorem sl_x (l : List Int) (cur r : List UInt8) (a : Nat) (c : UInt8) (h : c = 44) : specSL l cur a (c :: r) = if (accB cur && isE l (resV cur)) = true then specSL l [] (a ||| 2 ^ (resV cur).toNat) r else none := by
  rw [specSL, if_pos h]
theorem sl_o (l : List Int) (cur r : List UInt8) (a : Nat) (c : UInt8) (h : c ≠ 44) : specSL l cur a (c :: r) = specSL l (cur ++ [c]) a r := by
  rw [specSL, if_neg h]
theorem fmt_zero (l : List Int) : fmtS l 0 = noneT ∨ fmtS l 0 = [] := by
  unfold fmtS
  split
  · next h =>
    left
    have h2 : lstE l 0 = [] := (lstE_nil (m := 0) h).2 rfl
    rw [if_pos h2]; rfl
  · exact .inr rfl
set_option maxHeartbeats 4000000 in
theorem sParS (w : World) (a : Option Addr) (l : List Int) (n cap : Nat) (s : ByteArray) (hn : n = l.length) (hm : n ≤ 9223372036854775807) (hi : Ints w a l) (hs : s.size ≤ 1048576) :
    Calls Tryz.prog 24 #[.agg #[.slice a n cap], .string s] w (SetAns (specPS l s.data.toList) w) := by
  have HI := Lib.hid (ints_alloc hi (.cells #[.slice a n cap] 26))
  have HN := Lib.hid hn
  have C1 := newC w (.slice a n cap) 26 (n := w.heap.size) rfl
  have HB := Lib.hid (Joins.below_alloc1 w (.cells #[.slice a n cap] 26))
  have T0 := Lib.hid (Below.refl (w.alloc (.cells #[.slice a n cap] 26)).heap.size (w.alloc (.cells #[.slice a n cap] 26)))
  clear hi hn
  unfold SetAns
  have hsz : s.data.toList.length = s.size := by simp
  have HSZ := Lib.hid hsz
  clear hsz
  by_cases hno : s.data.toList = noneT
  · have hq : (s.toList == [110, 111, 110, 101]) = true := by rw [Lib.toList_data, hno]; rfl
    obtain ⟨b, HGB⟩ : ∃ b, Hid (grpB l = b) := ⟨_, Lib.hid rfl⟩
    have HR : Hid (specPS l s.data.toList = if b = true then some 0 else none) := Lib.hid (by unfold specPS; rw [if_pos hno, HGB.out])
    clear hno
    cases b with
    | true =>
      go_enter Tryz.func24, Tryz.ntmps24
      go_wp2_with (go_at_call 44; refine (sIsGroup _ _ _ _ _ HN.out hm (HI.out.below rfl T0.out)).mono ?_; rw [HGB.out]; rintro e w1 ⟨rfl, hb1⟩)
      go_ret2
      exact ⟨by rw [HR.out]; rfl, HB.out.trans (hb1.mono (by simp))⟩
    | false =>
      go_enter Tryz.func24, Tryz.ntmps24
      go_wp2_with (go_at_call 44; refine (sIsGroup _ _ _ _ _ HN.out hm (HI.out.below rfl T0.out)).mono ?_; rw [HGB.out]; rintro e w1 ⟨rfl, hb1⟩)
      go_ret2
      exact ⟨by rw [HR.out]; rfl, HB.out.trans (hb1.mono (by simp))⟩
  · have hq : (s.toList == [110, 111, 110, 101]) = false := by rw [Lib.toList_data]; simpa [noneT] using hno
    by_cases h80 : 80 < s.size
    · have HR : Hid (specPS l s.data.toList = none) := Lib.hid (by unfold specPS; rw [if_neg hno, if_pos (by rw [HSZ.out]; exact h80)])
      have hne : fmtS l 0 ≠ s.data.toList := fun e => by
        have h1 := HSZ.out
        rw [← e] at h1
        rcases fmt_zero l with h2 | h2
        · rw [h2] at h1; simp [noneT] at h1; omega
        · rw [h2] at h1; simp at h1; omega
      have hq2 : ((bs (fmtS l 0)).toList == s.toList) = false := by rw [Lib.toList_data, Lib.toList_data, bs_list2]; simpa using hne
      clear hno hne
      go_enter Tryz.func24, Tryz.ntmps24
      go_wp2
      refine wp_loop_rounds 1 ?_
      rw [rounds_succ]
      go_wp2_with (go_at_call 10; refine (sFmtS _ _ _ _ _ _ HN.out hm (HI.out.below rfl T0.out)).mono ?_; rintro e w5 ⟨rfl, hb5⟩)
      go_ret2
      exact ⟨by rw [HR.out]; rfl, HB.out.trans (hb5.mono (by simp))⟩
    · have hs80 : s.size ≤ 80 := by omega
      have HR := Lib.hid (show specPS l s.data.toList = (match specSL l [] 0 s.data.toList with
          | none => none
          | some a => if fmtS l a = s.data.toList then some a else none) by unfold specPS; rw [if_neg hno, if_neg (by rw [HSZ.out]; omega)]; cases specSL l [] 0 s.data.toList <;> rfl)
      clear hno h80
      go_enter Tryz.func24, Tryz.ntmps24
      go_wp2
      go_loopw [6, 7, 8] (fun aa p i wr => ∃ (k : Nat) (cur : List UInt8) (A : Nat), k ≤ s.size + 1 ∧ i = .int .i64 k ∧ p = strV cur ∧ aa = .int .i64 (A : Nat) ∧ Hid (cur.length ≤ k) ∧ Hid (A < 16777216) ∧ Hid ((k ≤ s.size ∧ specSL l [] 0 s.data.toList = specSL l cur A (s.data.toList.drop k)) ∨ (k = s.size + 1 ∧ specSL l [] 0 s.data.toList = some A)) ∧ Below (w.alloc (.cells #[.slice a n cap] 26)).heap.size (w.alloc (.cells #[.slice a n cap] 26)) wr) (fun _ _ i _ => s.size + 1 - (intOf i).toNat)
      case atStart => exact ⟨0, [], 0, by omega, rfl, rfl, rfl, Lib.hid (Nat.le_refl _), Lib.hid (by decide), Lib.hid (.inl ⟨by omega, rfl⟩), T0.out⟩
      case round =>
        obtain ⟨k, cur, A, hk, rfl, rfl, rfl, HCL, HAL, HSP, hbel⟩ := hrel
        have T4 := Lib.hid hbel
        have c4 := keepC hbel (by simp) C1
        have hcl := HCL.out
        have hal := HAL.out
        clear hbel
        by_cases hend : k = s.size + 1
        · have hsp : specSL l [] 0 s.data.toList = some A := by
            rcases HSP.out with ⟨h, _⟩ | ⟨_, h⟩
            · omega
            · exact h
          have HRF : Hid (specPS l s.data.toList = if fmtS l A = s.data.toList then some A else none) := Lib.hid (by rw [HR.out, hsp])
          subst hend
          clear hsp HSP
          by_cases hf : fmtS l A = s.data.toList
          · have HRY : Hid (specPS l s.data.toList = some A) := Lib.hid (by rw [HRF.out, if_pos hf])
            have hq4 : ((bs (fmtS l A)).toList == s.toList) = true := by rw [Lib.toList_data, Lib.toList_data, bs_list2, hf]; simp
            clear hf
            go_wp2_with (go_at_call 10; refine (sFmtS _ _ _ _ _ _ HN.out hm (HI.out.below rfl T4.out)).mono ?_; rintro e w5 ⟨rfl, hb5⟩)
            go_ret2
            exact ⟨by rw [HRY.out]; rfl, HB.out.trans ((T4.out.trans (hb5.mono T4.out.size)).mono (by simp))⟩
          · have HRN : Hid (specPS l s.data.toList = none) := Lib.hid (by rw [HRF.out, if_neg hf])
            have hq4 : ((bs (fmtS l A)).toList == s.toList) = false := by rw [Lib.toList_data, Lib.toList_data, bs_list2]; simpa using hf
            clear hf
            go_wp2_with (go_at_call 10; refine (sFmtS _ _ _ _ _ _ HN.out hm (HI.out.below rfl T4.out)).mono ?_; rintro e w5 ⟨rfl, hb5⟩)
            go_ret2
            exact ⟨by rw [HRN.out]; rfl, HB.out.trans ((T4.out.trans (hb5.mono T4.out.size)).mono (by simp))⟩
        · have hks : k ≤ s.size := by omega
          have hsp : specSL l [] 0 s.data.toList = specSL l cur A (s.data.toList.drop k) := by
            rcases HSP.out with ⟨_, h⟩ | ⟨h, _⟩
            · exact h
            · exact absurd h hend
          have HSP2 := Lib.hid hsp
          clear hsp HSP hend
          by_cases hx : ∃ h : k < s.size, s[k] ≠ 44
          · obtain ⟨hlt, hx⟩ := hx
            have HN1 : Hid (specSL l [] 0 s.data.toList = specSL l (cur ++ [s[k]]) A (s.data.toList.drop (k + 1))) := Lib.hid (by rw [HSP2.out, drop_at s k hlt, sl_o _ _ _ _ _ hx])
            have hx2 : ((s[k].toNat : Int) != 44) = true := by
              simp only [bne_iff_ne, ne_eq]
              intro e
              apply hx
              have h2 : s[k].toNat = 44 := by omega
              exact UInt8.toNat_inj.1 (by rw [h2]; rfl)
            have HEX := Lib.hid (ext_one s k hlt)
            have hcs : (bs cur).size ≤ 81 := by rw [bs_size]; omega
            have hes : (s.extract k (k + 1)).size ≤ 1 := by rw [HEX.out, bs_size]; simp
            clear hx
            go_wp2
            go_roundw
            case rel => exact ⟨k + 1, cur ++ [s[k]], A, by omega, by go_num, by rw [HEX.out, bs_append], rfl, Lib.hid (by simp; omega), HAL, Lib.hid (.inl ⟨by omega, HN1.out⟩), T4.out⟩
            case measure => simp [intOf]; omega
          · have HN0 : Hid ((accB cur && isE l (resV cur)) = false → specSL l [] 0 s.data.toList = none) := Lib.hid (fun h => by
              by_cases hlt : k < s.size
              · have h44 : s[k] = 44 := by
                  cases Decidable.em (s[k] = 44) with
                  | inl h => exact h
                  | inr h => exact absurd ⟨hlt, h⟩ hx
                rw [HSP2.out, drop_at s k hlt, sl_x _ _ _ _ _ h44, h]; rfl
              · rw [HSP2.out, List.drop_of_length_le (by rw [HSZ.out]; omega), sl_end, h]; rfl)
            have HN1 : Hid ((accB cur && isE l (resV cur)) = true → ((k + 1 ≤ s.size ∧ specSL l [] 0 s.data.toList = specSL l [] (A ||| 2 ^ (resV cur).toNat) (s.data.toList.drop (k + 1))) ∨ (k + 1 = s.size + 1 ∧ specSL l [] 0 s.data.toList = some (A ||| 2 ^ (resV cur).toNat)))) := Lib.hid (fun h => by
              by_cases hlt : k < s.size
              · have h44 : s[k] = 44 := by
                  cases Decidable.em (s[k] = 44) with
                  | inl h => exact h
                  | inr h => exact absurd ⟨hlt, h⟩ hx
                exact .inl ⟨by omega, by rw [HSP2.out, drop_at s k hlt, sl_x _ _ _ _ _ h44, if_pos h]⟩
              · exact .inr ⟨by omega, by rw [HSP2.out, List.drop_of_length_le (by rw [HSZ.out]; omega), sl_end, if_pos h]⟩)
            have HPI := Lib.hid (sparse_any (bs cur) wr (by rw [bs_size]; unfold maxLen; omega))
            rw [show (bs cur).data.toList = cur from bs_list2 cur] at HPI
            have hor : (k < s.size ∧ ∀ h : k < s.size, ((s[k].toNat : Int) != 44) = false) ∨ k = s.size := by
              rcases Nat.lt_or_ge k s.size with hlt | hge
              · refine .inl ⟨hlt, fun h => ?_⟩
                have h44 : s[k] = 44 := by
                  cases Decidable.em (s[k] = 44) with
                  | inl h => exact h
                  | inr h => exact absurd ⟨hlt, h⟩ hx
                rw [h44]; rfl
              · exact .inr (by omega)
            clear hx
            cases hacc : accB cur with
            | false =>
              have HRN : Hid (specPS l s.data.toList = none) := Lib.hid (by rw [HR.out, HN0.out (by rw [hacc]; rfl)])
              rw [hacc] at HPI
              clear hacc
              generalize resV cur = z at *
              rcases hor with ⟨hlt, hx2⟩ | hke
              · have hx3 := hx2 hlt
                clear hx2
                go_wp2_with (go_at_call 63; refine HPI.out.mono ?_; rintro e w6 ⟨rfl, hb6⟩; have T6 := Lib.hid (T4.out.trans (hb6.mono T4.out.size)); have c6 := keepC T6.out (by simp) C1)
                go_ret2
                exact ⟨by rw [HRN.out]; rfl, HB.out.trans ((T4.out.trans (hb6.mono T4.out.size)).mono (by simp))⟩
              · subst hke
                go_wp2_with (go_at_call 63; refine HPI.out.mono ?_; rintro e w6 ⟨rfl, hb6⟩; have T6 := Lib.hid (T4.out.trans (hb6.mono T4.out.size)); have c6 := keepC T6.out (by simp) C1)
                go_ret2
                exact ⟨by rw [HRN.out]; rfl, HB.out.trans ((T4.out.trans (hb6.mono T4.out.size)).mono (by simp))⟩
            | true =>
              cases he : isE l (resV cur) with
              | false =>
                have HRN : Hid (specPS l s.data.toList = none) := Lib.hid (by rw [HR.out, HN0.out (by rw [hacc, he]; rfl)])
                have HE : Hid (false = isE l (resV cur)) := Lib.hid he.symm
                rw [hacc] at HPI
                clear hacc he
                generalize resV cur = z at *
                rcases hor with ⟨hlt, hx2⟩ | hke
                · have hx3 := hx2 hlt
                  clear hx2
                  go_wp2_with (first
                    | (go_at_call 57; refine (sIs _ _ _ _ _ _ _ HE.out HN.out hm (HI.out.below rfl T6.out)).mono ?_; rintro e w7 ⟨rfl, hb7⟩; have T7 := Lib.hid (T6.out.trans (hb7.mono T6.out.size)); have c7 := keepC T7.out (by simp) C1)
                    | (go_at_call 63; refine HPI.out.mono ?_; rintro e w6 ⟨rfl, hb6⟩; have T6 := Lib.hid (T4.out.trans (hb6.mono T4.out.size)); have c6 := keepC T6.out (by simp) C1))
                  go_ret2
                  exact ⟨by rw [HRN.out]; rfl, HB.out.trans (T7.out.mono (by simp))⟩
                · subst hke
                  go_wp2_with (first
                    | (go_at_call 57; refine (sIs _ _ _ _ _ _ _ HE.out HN.out hm (HI.out.below rfl T6.out)).mono ?_; rintro e w7 ⟨rfl, hb7⟩; have T7 := Lib.hid (T6.out.trans (hb7.mono T6.out.size)); have c7 := keepC T7.out (by simp) C1)
                    | (go_at_call 63; refine HPI.out.mono ?_; rintro e w6 ⟨rfl, hb6⟩; have T6 := Lib.hid (T4.out.trans (hb6.mono T4.out.size)); have c6 := keepC T6.out (by simp) C1))
                  go_ret2
                  exact ⟨by rw [HRN.out]; rfl, HB.out.trans (T7.out.mono (by simp))⟩
              | true =>
                have HNN := Lib.hid (HN1.out (by rw [hacc, he]; rfl))
                have HE : Hid (true = isE l (resV cur)) := Lib.hid he.symm
                obtain ⟨_, e0, _, e1⟩ := isE_true he
                have HOR := Lib.hid (or_step hal e0 e1)
                have HA2 : Hid (A ||| 2 ^ (resV cur).toNat < 16777216) := Lib.hid (Nat.or_lt_two_pow (n := 24) hal (Nat.pow_lt_pow_right (by decide) (by omega)))
                rw [hacc] at HPI
                clear hacc he
                generalize resV cur = z at *
                rcases hor with ⟨hlt, hx2⟩ | hke
                · have hx3 := hx2 hlt
                  clear hx2
                  go_wp2_with (first
                    | (go_at_call 57; refine (sIs _ _ _ _ _ _ _ HE.out HN.out hm (HI.out.below rfl T6.out)).mono ?_; rintro e w7 ⟨rfl, hb7⟩; have T7 := Lib.hid (T6.out.trans (hb7.mono T6.out.size)); have c7 := keepC T7.out (by simp) C1)
                    | (go_at_call 63; refine HPI.out.mono ?_; rintro e w6 ⟨rfl, hb6⟩; have T6 := Lib.hid (T4.out.trans (hb6.mono T4.out.size)); have c6 := keepC T6.out (by simp) C1))
                  go_roundw
                  case rel => exact ⟨k + 1, [], A ||| 2 ^ z.toNat, by omega, by go_num, rfl, by rw [HOR.out], Lib.hid (by simp), HA2, HNN, T7.out⟩
                  case measure => simp [intOf]; omega
                · subst hke
                  go_wp2_with (first
                    | (go_at_call 57; refine (sIs _ _ _ _ _ _ _ HE.out HN.out hm (HI.out.below rfl T6.out)).mono ?_; rintro e w7 ⟨rfl, hb7⟩; have T7 := Lib.hid (T6.out.trans (hb7.mono T6.out.size)); have c7 := keepC T7.out (by simp) C1)
                    | (go_at_call 63; refine HPI.out.mono ?_; rintro e w6 ⟨rfl, hb6⟩; have T6 := Lib.hid (T4.out.trans (hb6.mono T4.out.size)); have c6 := keepC T6.out (by simp) C1))
                  go_roundw
                  case rel => exact ⟨s.size + 1, [], A ||| 2 ^ z.toNat, by omega, by go_num, rfl, by rw [HOR.out], Lib.hid (by simp), HA2, Lib.hid (HNN.out.imp_right fun h => ⟨rfl, h.2⟩), T7.out⟩
                  case measure => simp [intOf] <;> omega
end Go.Proofs.YtkejpikhlejmaaaGreatDoor
