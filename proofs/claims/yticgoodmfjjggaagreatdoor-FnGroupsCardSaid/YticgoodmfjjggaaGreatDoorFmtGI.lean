/- The contract of impl.FormatGroup, and the law's own walk. -/
import Derived.Test.YticgoodmfjjggaaGreatDoorFmtG
import Derived.Deep.RegionHeld3
import Derived.Deep.DeepCutAuto
namespace Go.Proofs.YticgoodmfjjggaaGreatDoor
open Go.RowKit
set_option maxRecDepth 1000000
theorem ifmt_small (z : Int) (h0 : 0 ≤ z) (h1 : z < 100) (w : World) :
    Calls Tryz.prog 116 #[.int .i64 z] w fun e w' => e = .returned (strV (Lib.itoa z)) ∧ w = w' := by
  obtain ⟨i, rfl⟩ : ∃ i : Nat, z = i := ⟨z.toNat, by omega⟩
  have hi : i < 100 := by omega
  have HI := Lib.hid (Tryz.strconv_Itoa_small i hi w)
  have HE := Lib.hid (show strV (Lib.itoa (i : Int)) = .string ⟨(Lib.decDigits i).toArray⟩ by rw [Lib.itoa_nonneg]; rfl)
  go_enter Tryz.func116, Tryz.ntmps116
  go_wp2_with (go_at_call 137; refine HI.out.mono ?_; rintro e w1 ⟨rfl, rfl⟩)
  go_ret
  exact ⟨by rw [HE.out]; rfl, rfl⟩
/-- The numerals of the first k orders in a row of n texts. -/
def rowF (l : List Int) (k : Nat) : List Value := (List.range l.length).map fun j => if j < k then strV (Lib.itoa (l.getD j 0)) else .string ByteArray.empty
theorem rowF_len (l : List Int) (k : Nat) : (rowF l k).length = l.length := by simp [rowF]
theorem rowF_at (l : List Int) (k j : Nat) (hj : j < l.length) : (rowF l k)[j]? = some (if j < k then strV (Lib.itoa (l.getD j 0)) else .string ByteArray.empty) := by
  unfold rowF
  rw [List.getElem?_map, List.getElem?_range hj]; rfl
theorem rowF_zero (l : List Int) : rowF l 0 = (madeCells #[Value.string ByteArray.empty] l.length).toList := by
  rw [toList_madeCells_one]
  apply List.ext_getElem <;> simp [rowF]
theorem rowF_set (l : List Int) (k : Nat) (hk : k < l.length) : (rowF l k).set k (strV (Lib.itoa (l.getD k 0))) = rowF l (k + 1) := by
  apply List.ext_getElem?
  intro j
  by_cases hj : j < l.length
  · rw [List.getElem?_set, rowF_at _ _ _ hj, rowF_at _ _ _ hj]
    by_cases h : k = j
    · subst h; rw [if_pos rfl, if_pos (by rw [rowF_len]; exact hk), if_pos (by omega)]
    · rw [if_neg h]
      by_cases h1 : j < k
      · rw [if_pos h1, if_pos (by omega)]
      · rw [if_neg h1, if_neg (by omega)]
  · rw [List.getElem?_eq_none (by rw [List.length_set, rowF_len]; omega), List.getElem?_eq_none (by rw [rowF_len]; omega)]
theorem strInfo : (Tryz.prog.info? 9).map (fun i => (i.zero, i.size, i.bytes)) = some (some (.string ByteArray.empty), 1, 16) := by kernel_rfl
theorem bs_list (x : List UInt8) : (bs x).data.toList = x := by simp [bs]
theorem jtail_len (c : UInt8) : ∀ (r : List Int), (∀ x ∈ r, 0 ≤ x ∧ x < 100) → (Lib.joinTail [c] (r.map Lib.itoa)).length ≤ 22 * r.length
  | [], _ => by simp [Lib.joinTail]
  | x :: t, h => by
    have h1 := jtail_len c t (fun y hy => h y (by simp [hy]))
    have h2 := Lib.itoa_length_le x (by have := h x (by simp); omega) (by have := h x (by simp); omega)
    have e : Lib.joinTail [c] ((x :: t).map Lib.itoa) = [c] ++ Lib.itoa x ++ Lib.joinTail [c] (t.map Lib.itoa) := by simp [Lib.joinTail]
    rw [e]
    simp only [List.length_append, List.length_cons, List.length_nil]
    omega
/-- Numerals with a byte between them. -/
def joinC (c : UInt8) (l : List Int) : List UInt8 := Lib.join (l.map Lib.itoa) [c]
theorem join_len (c : UInt8) (l : List Int) (h : ∀ x ∈ l, 0 ≤ x ∧ x < 100) : (joinC c l).length ≤ 22 * l.length := by
  match l, h with
  | [], _ => simp [joinC, Lib.join]
  | x :: t, h =>
    have h1 := jtail_len c t (fun y hy => h y (by simp [hy]))
    have h2 := Lib.itoa_length_le x (by have := h x (by simp); omega) (by have := h x (by simp); omega)
    unfold joinC
    rw [List.map_cons, Lib.join_cons, List.length_append]
    simp only [List.length_cons]
    omega
theorem at_mem {l : List Int} (h : ∀ x ∈ l, 0 ≤ x ∧ x < 100) {j : Nat} (hj : j < l.length) : 0 ≤ l.getD j 0 ∧ l.getD j 0 < 100 := by
  simp only [List.getD, List.getElem?_eq_getElem hj, Option.getD_some]; exact h _ (List.getElem_mem hj)
theorem joinN (c : UInt8) (bk : Nat) (l : List Int) (n : Nat) (hn : n = l.length) (h24 : n ≤ 24) (hl : ∀ x ∈ l, 0 ≤ x ∧ x < 100) (w : World) (hcells : ∀ j, j < l.length → w.cell? ⟨bk, 0 + j, none⟩ = some (strV (Lib.itoa (l.getD j 0)))) (hbk : bk < w.heap.size) :
    Calls Tryz.prog 117 #[.slice (some ⟨bk, 0, none⟩) n n, .string ⟨#[c]⟩] w fun e w' => e = .returned (strV (joinC c l)) ∧ Below w.heap.size w w' := by
  subst hn
  have hm : (l.map fun z => bs (Lib.itoa z)).map (·.data.toList) = l.map Lib.itoa := by
    rw [List.map_map]; apply List.map_congr_left; intro z _; exact bs_list _
  have hlen : (joinC c l).length ≤ 140737488355328 := by
    have h1 := join_len c l hl
    omega
  have h := Tryz.strings_Join bk 0 l.length (l.map fun z => bs (Lib.itoa z)) ⟨#[c]⟩ w (fun j x hj => by
      have hj2 : j < l.length := by
        rcases Nat.lt_or_ge j l.length with h | h
        · exact h
        · rw [List.getElem?_eq_none (by simpa using h)] at hj; cases hj
      rw [List.getElem?_map, List.getElem?_eq_getElem hj2] at hj
      simp only [Option.map_some, Option.some.injEq] at hj
      have h2 := hcells j hj2
      rw [h2, ← hj]
      simp [List.getD, hj2])
    hbk (by simp; omega) (by simp) (by rw [hm]; exact hlen)
  rw [List.length_map] at h
  refine h.mono fun e w' ⟨he, hb⟩ => ⟨?_, hb⟩
  rw [he, hm]; rfl
set_option maxHeartbeats 1000000 in
theorem iJoin (w : World) (a : Option Addr) (l : List Int) (n cap : Nat) (c : UInt8) (hn : n = l.length) (h24 : n ≤ 24) (hx : ∀ x ∈ l, 0 ≤ x ∧ x < 100) (hi : Ints w a l) :
    Calls Tryz.prog 77 #[.slice a n cap, .string ⟨#[c]⟩] w fun e w' => e = .returned (strV (joinC c l)) ∧ Below w.heap.size w w' := by
  obtain ⟨i0, hi0, hz0, hz1, hz2⟩ := info_parts strInfo
  have HI1 := Lib.hid hi
  have HN := Lib.hid hn
  have HX := Lib.hid hx
  clear hi hn hx
  go_enter Tryz.func77, Tryz.ntmps77
  go_wp2_with (at_make; refine wpList_make_full _ rfl _ _ 77 rfl w.heap.size 9 i0 (.string ByteArray.empty) 1 Tryz.underlying77 hi0 hz0 hz1 .i64 .i64 _ _ n rfl rfl ?c0 ?c00 ?c1 ?c2 ?c3 ?_)
  case c0 => rfl
  case c00 => rfl
  case c1 => rw [hz2]; omega
  case c2 => unfold maxLen; omega
  case c3 => omega
  intro w2 hown hgrow
  have hrow : w2.ownsRow w.heap.size 9 1 (.slice (some ⟨w.heap.size, 0, none⟩) n n) n (rowF l 0) := by rw [rowF_zero, ← HN.out]; simpa using hown
  have hbel1 : Below w.heap.size w w2 := (Below.refl _ w).grown hgrow (Nat.le_refl _) (fun q hq => by cases hq)
  clear hown hgrow
  go_wp2
  go_loopw [13] (fun i wr => ∃ k : Nat, k ≤ n ∧ i = .int .i64 k ∧ wr.ownsRow w.heap.size 9 1 (.slice (some ⟨w.heap.size, 0, none⟩) n n) n (rowF l k) ∧ Below w.heap.size w wr) (fun i _ => n - (intOf i).toNat)
  case atStart => exact ⟨0, Nat.zero_le _, rfl, hrow, hbel1⟩
  case round =>
    obtain ⟨k, hk, rfl, hr, hbel⟩ := hrel
    by_cases hlt : k < n
    · have hkl : k < l.length := by rw [← HN.out]; exact hlt
      rcases HI1.out with h0 | ⟨b, off, ha, hbl, hc⟩
      · rw [h0] at hkl; simp at hkl
      · subst ha
        have r1 := keepC hbel (by simpa using hbl) (hc k hkl)
        obtain ⟨o1, o2⟩ := at_mem HX.out hkl
        have hfr := hr.frozenAt k
        have hcell : wr.cell? ⟨w.heap.size, k, none⟩ = some (.string ByteArray.empty) := (hr.cellAt k (by omega)).trans (by rw [rowF_at _ _ _ hkl, if_neg (by omega)])
        have hst := (hr.stored k (strV (Lib.itoa (l.getD k 0)))).1
        rw [rowF_set _ _ hkl] at hst
        have HST := Lib.hid hst
        generalize l.getD k 0 = z at r1 HST o1 o2
        clear hst hc hkl
        go_wp2_with (go_at_call 116; refine (ifmt_small z (by omega) (by omega) _).mono ?_; rintro e w' ⟨rfl, rfl⟩)
        go_roundw
        case rel => exact ⟨k + 1, by omega, by go_num, HST.out, hbel.setCell (Nat.le_refl _) _⟩
        case measure => simp [intOf]; omega
    · obtain rfl : k = n := by omega
      have HJ := Lib.hid (joinN c w.heap.size l k HN.out h24 HX.out wr (fun j hj => by
        have h1 := hr.cellAt j (by rw [HN.out]; omega)
        rw [show (⟨w.heap.size, 0 + j, none⟩ : Addr) = ⟨w.heap.size, j, none⟩ by simp, h1, rowF_at _ _ _ hj, if_pos (by rw [HN.out]; exact hj)]) ((hr.lt _ rfl).2))
      have HBL := Lib.hid hbel
      clear hr hbel
      go_wp2_with (go_at_call 117; refine HJ.out.mono ?_; rintro e w5 ⟨rfl, hb5⟩)
      go_ret
      exact ⟨rfl, HBL.out.trans (hb5.mono HBL.out.size)⟩
set_option maxHeartbeats 1000000 in
theorem iFmtG (w : World) (a : Option Addr) (l : List Int) (n cap : Nat) (hn : n = l.length) (hm : n ≤ 9223372036854775807) (hi : Ints w a l) :
    Calls Tryz.prog 19 #[.agg #[.slice a n cap]] w fun e w' => e = .returned (strV (fmtG l)) ∧ Below w.heap.size w w' := by
  have HI := Lib.hid (ints_alloc hi (.cells #[.slice a n cap] 26))
  have HN := Lib.hid hn
  have C1 := newC w (.slice a n cap) 26 (n := w.heap.size) rfl
  have HB := Lib.hid (Joins.below_alloc1 w (.cells #[.slice a n cap] 26))
  have T0 := Lib.hid (Below.refl (w.alloc (.cells #[.slice a n cap] 26)).heap.size (w.alloc (.cells #[.slice a n cap] 26)))
  clear hi hn
  cases hg : grpB l with
  | false =>
    have HG := Lib.hid hg
    rw [show fmtG l = [] by unfold fmtG; rw [if_neg (by simp [hg])]]
    clear hg
    go_enter Tryz.func19, Tryz.ntmps19
    go_wp2_with (first
      | (go_at_call 25; refine (isG _ _ _ _ _ HN.out hm HI.out).mono ?_; rw [HG.out]; rintro e w1 ⟨rfl, hb1⟩; have T1 := Lib.hid (T0.out.trans (hb1.mono T0.out.size)); have c1 := keepC T1.out (by simp) C1))
    go_ret
    exact ⟨rfl, HB.out.trans (T1.out.mono (by simp))⟩
  | true =>
    have HG := Lib.hid hg
    have hn3 : n ≤ 3 := by rw [HN.out]; exact (grpB_true hg).1
    by_cases h0 : n = 0
    · have hl : l = [] := List.eq_nil_of_length_eq_zero (by rw [← HN.out, h0])
      rw [show fmtG l = [49] by unfold fmtG; rw [if_pos hg, if_pos hl]]
      subst h0
      clear hg hl
      go_enter Tryz.func19, Tryz.ntmps19
      go_wp2_with (first
        | (go_at_call 25; refine (isG _ _ _ _ _ HN.out hm HI.out).mono ?_; rw [HG.out]; rintro e w1 ⟨rfl, hb1⟩; have T1 := Lib.hid (T0.out.trans (hb1.mono T0.out.size)); have c1 := keepC T1.out (by simp) C1))
      go_ret
      exact ⟨rfl, HB.out.trans (T1.out.mono (by simp))⟩
    · have hl : l ≠ [] := fun e => h0 (by rw [HN.out, e]; rfl)
      have HF : Hid (fmtG l = joinC 120 l) := Lib.hid (by unfold fmtG; rw [if_pos hg, if_neg hl]; unfold txtK joinC; rw [List.take_length])
      have HX : Hid (∀ x ∈ l, 0 ≤ x ∧ x < 100) := Lib.hid (fun x hx => by
        obtain ⟨j, hj, he⟩ := List.getElem_of_mem hx
        have := ord_at hg hj
        simp only [List.getD, List.getElem?_eq_getElem hj, Option.getD_some, he] at this
        omega)
      have hz : ((n : Int) == 0) = false := by simp; omega
      clear hg hl h0
      go_enter Tryz.func19, Tryz.ntmps19
      go_wp2_with (first
        | (go_at_call 77; refine (iJoin _ _ l _ _ 120 HN.out (by omega) HX.out (HI.out.below rfl T1.out)).mono ?_; rintro e w5 ⟨rfl, hb5⟩)
        | (go_at_call 25; refine (isG _ _ _ _ _ HN.out hm HI.out).mono ?_; rw [HG.out]; rintro e w1 ⟨rfl, hb1⟩; have T1 := Lib.hid (T0.out.trans (hb1.mono T0.out.size)); have c1 := keepC T1.out (by simp) C1))
      go_ret
      exact ⟨by rw [HF.out]; rfl, HB.out.trans ((T1.out.trans (hb5.mono T1.out.size)).mono (by simp))⟩
end Go.Proofs.YticgoodmfjjggaaGreatDoor
