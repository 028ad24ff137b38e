/- The contract of impl.FormatGroup, and the law's own walk. -/
import Derived.Test.YtnacckpagbcllaaDoorFmtG
import Derived.Deep.RegionHeld3
import Derived.Deep.DeepCutAuto
namespace Go.Proofs.YtnacckpagbcllaaDoor
open Go.RowKit
theorem ifmt_small (z : Int) (h0 : 0 ≤ z) (h1 : z < 100) (w : World) :
    Calls Tryd.prog 19 #[.int .i64 z] w fun e w' => e = .returned (strV (Lib.itoa z)) ∧ w = w' := by
  obtain ⟨i, rfl⟩ : ∃ i : Nat, z = i := ⟨z.toNat, by omega⟩
  have hi : i < 100 := by omega
  have HI := Lib.hid (Tryd.strconv_Itoa_small i hi w)
  have HE := Lib.hid (show strV (Lib.itoa (i : Int)) = .string ⟨(Lib.decDigits i).toArray⟩ by rw [Lib.itoa_nonneg]; rfl)
  go_enter Tryd.func19, Tryd.ntmps19
  go_wp2_with (go_at_call 29; refine HI.out.mono ?_; rintro e w1 ⟨rfl, rfl⟩)
  go_ret
  exact ⟨by rw [HE.out]; rfl, rfl⟩
/-- The numerals of the first k orders in a row of n texts. -/
def rowF (l : List Int) (k : Nat) : List Value := (List.range l.length).map fun j => if j < k then strV (Lib.itoa (l.getD j 0)) else .string ByteArray.empty
theorem rowF_len (l : List Int) (k : Nat) : (rowF l k).length = l.length := by simp [rowF]
theorem rowF_at (l : List Int) (k j : Nat) (hj : j < l.length) : (rowF l k)[j]? = some (if j < k then strV (Lib.itoa (l.getD j 0)) else .string ByteArray.empty) := by
  unfold rowF
  rw [List.getElem?_map, List.getElem?_range hj]; rfl
theorem rowF_zero (l : List Int) : rowF l 0 = (madeCells #[Value.string ByteArray.empty] l.length).toList := by
  rw [toList_madeCells_one]
  apply List.ext_getElem <;> simp [rowF]
theorem rowF_set (l : List Int) (k : Nat) (hk : k < l.length) : (rowF l k).set k (strV (Lib.itoa (l.getD k 0))) = rowF l (k + 1) := by
  apply List.ext_getElem?
  intro j
  by_cases hj : j < l.length
  · rw [List.getElem?_set, rowF_at _ _ _ hj, rowF_at _ _ _ hj]
    by_cases h : k = j
    · subst h; rw [if_pos rfl, if_pos (by rw [rowF_len]; exact hk), if_pos (by omega)]
    · rw [if_neg h]
      by_cases h1 : j < k
      · rw [if_pos h1, if_pos (by omega)]
      · rw [if_neg h1, if_neg (by omega)]
  · rw [List.getElem?_eq_none (by rw [List.length_set, rowF_len]; omega), List.getElem?_eq_none (by rw [rowF_len]; omega)]
theorem strInfo : (Tryd.prog.info? 9).map (fun i => (i.zero, i.size, i.bytes)) = some (some (.string ByteArray.empty), 1, 16) := by kernel_rfl
theorem bs_list (x : List UInt8) : (bs x).data.toList = x := by simp [bs]
theorem joinN (bk : Nat) (l : List Int) (n : Nat) (hn : n = l.length) (hl : grpB l = true) (w : World) (hcells : ∀ j, j < l.length → w.cell? ⟨bk, 0 + j, none⟩ = some (strV (Lib.itoa (l.getD j 0)))) (hbk : bk < w.heap.size) :
    Calls Tryd.prog 20 #[.slice (some ⟨bk, 0, none⟩) n n, .string ⟨#[120]⟩] w fun e w' => e = .returned (strV (txtK l n)) ∧ Below w.heap.size w w' := by
  subst hn
  have hm : (l.map fun z => bs (Lib.itoa z)).map (·.data.toList) = l.map Lib.itoa := by
    rw [List.map_map]; apply List.map_congr_left; intro z _; exact bs_list _
  have hx : txtK l l.length = Lib.join (l.map Lib.itoa) [120] := by unfold txtK; rw [List.take_length]
  have hlen : (txtK l l.length).length ≤ 140737488355328 := by
    have h1 := txt_len hl l.length (Nat.le_refl _)
    have h2 := (grpB_true hl).1
    omega
  have h := Tryd.strings_Join bk 0 l.length (l.map fun z => bs (Lib.itoa z)) ⟨#[120]⟩ w (fun j x hj => by
      have hj2 : j < l.length := by
        rcases Nat.lt_or_ge j l.length with h | h
        · exact h
        · rw [List.getElem?_eq_none (by simpa using h)] at hj; cases hj
      rw [List.getElem?_map, List.getElem?_eq_getElem hj2] at hj
      simp only [Option.map_some, Option.some.injEq] at hj
      have h2 := hcells j hj2
      rw [h2, ← hj]
      simp [List.getD, hj2])
    hbk (by have := (grpB_true hl).1; simp; omega) (by simp) (by rw [hm, ← hx]; exact hlen)
  rw [List.length_map] at h
  refine h.mono fun e w' ⟨he, hb⟩ => ⟨?_, hb⟩
  rw [he, hm, hx]; rfl
set_option maxHeartbeats 1000000 in
theorem iFmtG (w : World) (a : Option Addr) (l : List Int) (n cap : Nat) (hn : n = l.length) (hm : n ≤ 9223372036854775807) (hi : Ints w a l) :
    Calls Tryd.prog 8 #[.agg #[.slice a n cap]] w fun e w' => e = .returned (strV (fmtG l)) ∧ Below w.heap.size w w' := by
  obtain ⟨i0, hi0, hz0, hz1, hz2⟩ := info_parts strInfo
  have HI := Lib.hid (ints_alloc hi (.cells #[.slice a n cap] 27))
  have HN := Lib.hid hn
  have C1 := newC w (.slice a n cap) 27 (n := w.heap.size) rfl
  have HB := Lib.hid (Joins.below_alloc1 w (.cells #[.slice a n cap] 27))
  have T0 := Lib.hid (Below.refl (w.alloc (.cells #[.slice a n cap] 27)).heap.size (w.alloc (.cells #[.slice a n cap] 27)))
  clear hi hn
  cases hg : grpB l with
  | false =>
    have HG := Lib.hid hg
    rw [show fmtG l = [] by unfold fmtG; rw [if_neg (by simp [hg])]]
    clear hg
    go_enter Tryd.func8, Tryd.ntmps8
    go_wp2_with (first
      | (go_at_call 18; refine (isG _ _ _ _ _ HN.out hm HI.out).mono ?_; rw [HG.out]; rintro e w1 ⟨rfl, hb1⟩; have T1 := Lib.hid (T0.out.trans (hb1.mono T0.out.size)); have c1 := keepC T1.out (by simp) C1))
    go_ret
    exact ⟨rfl, HB.out.trans (T1.out.mono (by simp))⟩
  | true =>
    have HG := Lib.hid hg
    have hn3 : n ≤ 3 := by rw [HN.out]; exact (grpB_true hg).1
    by_cases h0 : n = 0
    · have hl : l = [] := List.eq_nil_of_length_eq_zero (by rw [← HN.out, h0])
      rw [show fmtG l = [49] by unfold fmtG; rw [if_pos hg, if_pos hl]]
      subst h0
      clear hg hl
      go_enter Tryd.func8, Tryd.ntmps8
      go_wp2_with (first
        | (go_at_call 18; refine (isG _ _ _ _ _ HN.out hm HI.out).mono ?_; rw [HG.out]; rintro e w1 ⟨rfl, hb1⟩; have T1 := Lib.hid (T0.out.trans (hb1.mono T0.out.size)); have c1 := keepC T1.out (by simp) C1))
      go_ret
      exact ⟨rfl, HB.out.trans (T1.out.mono (by simp))⟩
    · have hl : l ≠ [] := fun e => h0 (by rw [HN.out, e]; rfl)
      have HF : Hid (fmtG l = txtK l n) := Lib.hid (by unfold fmtG; rw [if_pos hg, if_neg hl, HN.out])
      have hz : ((n : Int) == 0) = false := by simp; omega
      clear hg hl h0
      go_enter Tryd.func8, Tryd.ntmps8
      go_upto_region 5 with (first
        | (go_at_call 18; refine (isG _ _ _ _ _ HN.out hm HI.out).mono ?_; rw [HG.out]; rintro e w1 ⟨rfl, hb1⟩; have T1 := Lib.hid (T0.out.trans (hb1.mono T0.out.size)); have c1 := keepC T1.out (by simp) C1))
      have HI1 := Lib.hid (HI.out.below rfl T1.out)
      go_wp2_with (at_make; refine wpList_make_full _ rfl _ _ 39 rfl w1.heap.size 9 i0 (.string ByteArray.empty) 1 Tryd.underlying39 hi0 hz0 hz1 .i64 .i64 _ _ n rfl rfl ?c0 ?c00 ?c1 ?c2 ?c3 ?_)
      case c0 => rfl
      case c00 => rfl
      case c1 => rw [hz2]; omega
      case c2 => unfold maxLen; omega
      case c3 => omega
      intro w2 hown hgrow
      have hrow : w2.ownsRow w1.heap.size 9 1 (.slice (some ⟨w1.heap.size, 0, none⟩) n n) n (rowF l 0) := by rw [rowF_zero, ← HN.out]; simpa using hown
      have hbel1 : Below w1.heap.size w1 w2 := (Below.refl _ w1).grown hgrow (Nat.le_refl _) (fun q hq => by cases hq)
      have c2 := keepD hbel1 c1
      clear hown hgrow
      go_wp2
      go_loopw [20] (fun i wr => ∃ k : Nat, k ≤ n ∧ i = .int .i64 k ∧ wr.ownsRow w1.heap.size 9 1 (.slice (some ⟨w1.heap.size, 0, none⟩) n n) n (rowF l k) ∧ Below w1.heap.size w1 wr) (fun i _ => n - (intOf i).toNat)
      case atStart => exact ⟨0, Nat.zero_le _, rfl, hrow, hbel1⟩
      case round =>
        obtain ⟨k, hk, rfl, hr, hbel⟩ := hrel
        by_cases hlt : k < n
        · have hkl : k < l.length := by rw [← HN.out]; exact hlt
          rcases HI1.out with h0 | ⟨b, off, ha, hbl, hc⟩
          · rw [h0] at hkl; simp at hkl
          · subst ha
            have r1 := keepC hbel (by simpa using hbl) (hc k hkl)
            obtain ⟨o1, o2⟩ := ord_at HG.out hkl
            have hfr := hr.frozenAt k
            have hcell : wr.cell? ⟨w1.heap.size, k, none⟩ = some (.string ByteArray.empty) := (hr.cellAt k (by omega)).trans (by rw [rowF_at _ _ _ hkl, if_neg (by omega)])
            have hst := (hr.stored k (strV (Lib.itoa (l.getD k 0)))).1
            rw [rowF_set _ _ hkl] at hst
            have HST := Lib.hid hst
            generalize l.getD k 0 = z at r1 HST o1 o2
            clear hst hc hkl
            go_wp2_with (go_at_call 19; refine (ifmt_small z (by omega) (by omega) _).mono ?_; rintro e w' ⟨rfl, rfl⟩)
            go_roundw
            case rel => exact ⟨k + 1, by omega, by go_num, HST.out, hbel.setCell (Nat.le_refl _) _⟩
            case measure => simp [intOf]; omega
        · obtain rfl : k = n := by omega
          have HJ := Lib.hid (joinN w1.heap.size l k HN.out HG.out wr (fun j hj => by
            have h1 := hr.cellAt j (by rw [HN.out]; omega)
            rw [show (⟨w1.heap.size, 0 + j, none⟩ : Addr) = ⟨w1.heap.size, j, none⟩ by simp, h1, rowF_at _ _ _ hj, if_pos (by rw [HN.out]; exact hj)]) ((hr.lt _ rfl).2))
          have HBL := Lib.hid hbel
          clear hr hbel
          go_wp2_with (go_at_call 20; refine HJ.out.mono ?_; rintro e w5 ⟨rfl, hb5⟩)
          go_ret
          exact ⟨by rw [HF.out]; rfl, HB.out.trans ((T1.out.trans ((HBL.out.trans (hb5.mono HBL.out.size)).mono T1.out.size)).mono (by simp))⟩
end Go.Proofs.YtnacckpagbcllaaDoor
