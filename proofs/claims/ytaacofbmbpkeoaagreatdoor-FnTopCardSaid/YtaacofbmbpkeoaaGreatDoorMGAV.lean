/- Merged: SumTab EachN. -/
import Derived.Test.YtaacofbmbpkeoaaGreatDoorMGAU
import Derived.Test.YtaacofbmbpkeoaaGreatDoorMGAI
import Derived.RangeFuncNested
namespace Go.Proofs.YtaacofbmbpkeoaaGreatDoor
open Go.RowKit
set_option maxRecDepth 1000000
/-- A row that the call made, as it is read: where it lies and what stands in it. -/
theorem own_read {w : World} {B : Nat} {v : Value} {l : List Int} (h : w.ownsRow B 3 1 v l.length (l.map (Value.int .i64))) :
    ∃ a cap, v = .slice a l.length cap ∧ (l = [] ∨ ∃ b off, a = some ⟨b, off, none⟩ ∧ B ≤ b ∧ b < w.heap.size ∧ ∀ i, i < l.length → w.cell? ⟨b, off + i, none⟩ = some (.int .i64 (l.getD i 0))) := by
  obtain ⟨a, cap, rfl⟩ := own_slice h
  refine ⟨a, cap, rfl, ?_⟩
  rcases own_ints h with h0 | ⟨b, off, rfl, hb, hc⟩
  · exact .inl h0
  · exact .inr ⟨b, off, rfl, (h.lt b (by simp [Value.ownBlock])).1, hb, hc⟩
theorem cell_grown {w w' : World} {g : Nat} (h : w.grownBy w' (some g)) {b k : Nat} (hb : b < w.heap.size) (hne : b ≠ g) {v : Option Value} (c : w.cell? ⟨b, k, none⟩ = v) : w'.cell? ⟨b, k, none⟩ = v := by
  rw [← c]
  unfold World.cell?
  simp only
  rw [h.block b hb (fun e => hne (by cases e; rfl))]
/-- The counts as the row of the table. -/
def rowT (F : Nat → Nat) (n : Nat) : List Value := (tabF F n).map (Value.int .i64)
theorem rowT_set (F : Nat → Nat) (n k : Nat) (h : k < n) : (rowT F n).set k (.int .i64 ((F k + 1 : Nat) : Int)) = rowT (fun z => F z + (if k = z then 1 else 0)) n := by
  unfold rowT
  rw [← List.map_set, tabF_set F n k h]
theorem rowT_at (F : Nat → Nat) (n k : Nat) (h : k < n) : (rowT F n)[k]? = some (.int .i64 (F k : Nat)) := by
  unfold rowT tabF
  simp [h]
theorem rowT_len (F : Nat → Nat) (n : Nat) : (rowT F n).length = n := by simp [rowT, tabF_len]
theorem rowT_zero (n : Nat) : rowT (fun _ => 0) n = (madeCells #[Value.int .i64 0] n).toList := by
  rw [toList_madeCells_one]; unfold rowT; rw [tabF_zero]; simp
theorem take_snoc (s k : Nat) (h : k < (bitsN s).length) : (bitsN s).take (k + 1) = (bitsN s).take k ++ [(bitsN s).getD k 0] := by
  rw [List.take_add_one, List.getElem?_eq_getElem h]
  simp [List.getD, List.getElem?_eq_getElem h]
theorem cnt_bnd (l : List Int) (s t k j x z : Nat) : parN l ((bitsN s).take k) (bitsN t) z + hitN l ((bitsN t).take j) x z ≤ 600 := by
  have h1 := parN_le l (bitsN t) z ((bitsN s).take k)
  have h2 := hitN_le l ((bitsN t).take j) x z
  have h3 := bits_le s
  have h4 := bits_le t
  rw [List.length_take] at h1 h2
  have h5 : min k (bitsN s).length * (bitsN t).length ≤ 24 * 24 := Nat.mul_le_mul (by omega) h4
  omega
theorem tabE_len (l : List Int) (s t : Int) : (tabE l s t).length ≤ 24 := by
  unfold tabE
  split
  · next h =>
    have hg : grpB l = true := by
      unfold two at h; rw [Bool.and_eq_true] at h; exact (isS_true h.1).1
    have := (grpB_true hg).2.2
    unfold tabN; rw [tabF_len]; omega
  · simp
set_option maxHeartbeats 8000000 in
theorem sTab (w : World) (a : Option Addr) (l : List Int) (n cap : Nat) (s t : Int) (hn : n = l.length) (hm : n ≤ 9223372036854775807) (hi : Ints w a l) :
    Calls Tryz.prog 11 #[.agg #[.slice a n cap], .int .i64 s, .int .i64 t] w fun e w' => ∃ v, e = .returned v ∧ w'.ownsRow w.heap.size 3 1 v (tabE l s t).length ((tabE l s t).map (Value.int .i64)) ∧ Below w.heap.size w w' := by
  have HI := Lib.hid (ints_alloc hi (.cells #[.slice a n cap] 26))
  have HN := Lib.hid hn
  have C1 := newC w (.slice a n cap) 26 (n := w.heap.size) rfl
  have HB := Lib.hid (Joins.below_alloc1 w (.cells #[.slice a n cap] 26))
  have T0 := Lib.hid (Below.refl (w.alloc (.cells #[.slice a n cap] 26)).heap.size (w.alloc (.cells #[.slice a n cap] 26)))
  clear hi hn
  cases hs : isS l s with
  | false =>
    have HS := Lib.hid hs
    rw [show tabE l s t = [] by unfold tabE two; rw [hs]; rfl]
    clear hs
    go_enter Tryz.func11, Tryz.ntmps11
    go_wp2_with (first
      | (go_at_call 42; refine (sIsSet _ _ _ _ _ _ HN.out hm (HI.out.below rfl T0.out)).mono ?_; rw [HS.out]; rintro e w1 ⟨rfl, hb1⟩; have T1 := Lib.hid (T0.out.trans (hb1.mono T0.out.size)); have c1 := keepC T1.out (by simp) C1))
    go_ret
    exact ⟨_, rfl, by simpa using World.ownsRow_lit (base := w.heap.size) (e := 3) (size := 1) w1 #[] 0 (Nat.le_trans (by simp) T1.out.size) (by simp [maxLen]) rfl, HB.out.trans ((T1.out.mono (by simp)).alloc (Nat.le_trans (by simp) T1.out.size) _)⟩
  | true =>
    have HS := Lib.hid hs
    cases ht : isS l t with
    | false =>
      have HS2 := Lib.hid ht
      rw [show tabE l s t = [] by unfold tabE two; rw [hs, ht]; rfl]
      clear hs ht
      go_enter Tryz.func11, Tryz.ntmps11
      go_wp2_with (first
        | (go_at_call 42; have hx_ := T1; clear hx_; refine (sIsSet _ _ _ _ _ _ HN.out hm (HI.out.below rfl T1.out)).mono ?_; rw [HS2.out]; rintro e w2 ⟨rfl, hb2⟩; have T2 := Lib.hid (T1.out.trans (hb2.mono T1.out.size)); have c2 := keepC T2.out (by simp) C1)
        | (go_at_call 42; refine (sIsSet _ _ _ _ _ _ HN.out hm (HI.out.below rfl T0.out)).mono ?_; rw [HS.out]; rintro e w1 ⟨rfl, hb1⟩; have T1 := Lib.hid (T0.out.trans (hb1.mono T0.out.size)); have c1 := keepC T1.out (by simp) C1))
      go_ret
      exact ⟨_, rfl, by simpa using World.ownsRow_lit (base := w.heap.size) (e := 3) (size := 1) w2 #[] 0 (Nat.le_trans (by simp) T2.out.size) (by simp [maxLen]) rfl, HB.out.trans ((T2.out.mono (by simp)).alloc (Nat.le_trans (by simp) T2.out.size) _)⟩
    | true =>
      have HS2 := Lib.hid ht
      obtain ⟨i0, hi0, hz0, hz1, hz2⟩ := info_parts intInfo
      obtain ⟨hg, s, rfl, hsn, hs24⟩ := isS_true hs
      obtain ⟨_, t, rfl, htn, ht24⟩ := isS_true ht
      rw [show tabE l s t = tabN l s t by unfold tabE two; rw [hs, ht]; rfl]
      have HG := Lib.hid hg
      have HA := Lib.hid hs24
      have HC := Lib.hid ht24
      have hpr := (ords_grp hg).prod
      obtain ⟨N, HNN⟩ : ∃ N : Nat, Hid ((prodI l).toNat = N) := ⟨_, Lib.hid rfl⟩
      have HNI : Hid (prodI l = (N : Int)) := Lib.hid (by have := HNN.out; omega)
      have hN24 : N ≤ 24 := by have := HNI.out; omega
      have HEL : Hid (∀ x y : Int, 0 ≤ addN l x y ∧ addN l x y < N) := Lib.hid (fun x y => by have := addN_in (ords_grp hg) x y; rw [HNI.out] at this; exact this)
      have HRES : Hid (tabN l s t = tabF (parN l (bitsN s) (bitsN t)) N) := Lib.hid (by unfold tabN; rw [HNN.out])
      rw [HRES.out]
      have h24s := bits_le s
      have h24t := bits_le t
      have HBD := Lib.hid (cnt_bnd l s t)
      clear hs ht hg hs24 ht24 hpr hsn htn
      go_enter Tryz.func11, Tryz.ntmps11
      go_wp2_with (first
        | (at_make; refine wpList_make_full _ rfl _ _ 24 rfl w.heap.size 3 i0 (.int .i64 0) 1 Tryz.underlying24 hi0 hz0 hz1 .i64 .i64 _ _ N rfl rfl (by rfl) (by rfl) (by rw [hz2]; omega) (by unfold maxLen; omega) (Nat.le_trans (by simp) T3.out.size) ?_; intro w5 hown hgrow; have hG5 := Nat.le_trans (by simp : w.heap.size + 1 ≤ (w.alloc (.cells #[.slice a n cap] 26)).heap.size) T3.out.size; have T5 := Lib.hid (T3.out.grown hgrow T3.out.size (fun q hq => by cases hq)); have c5 := keepC T5.out (by simp) C1; have O5 := Lib.hid hown; have L5 := Lib.hid hown.lt)
        | (go_at_call 45; have hx_ := T6; clear hx_; refine (sL3I _ t HC.out).mono ?_; rintro e w7 ⟨v7, rfl, ho7, hb7⟩; obtain ⟨a7, cap7, rfl, hI7⟩ := own_read ho7; have I7 := Lib.hid hI7; have T7 := Lib.hid (T6.out.trans (hb7.mono T6.out.size)); have c7 := keepC T7.out (by simp) C1; have HB7 := Lib.hid hb7; clear ho7 hI7)
        | (go_at_call 45; have hx_ := T5; clear hx_; refine (sL3I _ s HA.out).mono ?_; rintro e w6 ⟨v6, rfl, ho6, hb6⟩; obtain ⟨a6, cap6, rfl, hI6⟩ := own_read ho6; have I6 := Lib.hid hI6; have T6 := Lib.hid (T5.out.trans (hb6.mono T5.out.size)); have c6 := keepC T6.out (by simp) C1; have HB6 := Lib.hid hb6; clear ho6 hI6)
        | (go_at_call 44; refine (sOrder _ _ _ _ _ HN.out HG.out (HI.out.below rfl T2.out)).mono ?_; rw [HNI.out]; rintro e w3 ⟨rfl, hb3⟩; have T3 := Lib.hid (T2.out.trans (hb3.mono T2.out.size)); have c3 := keepC T3.out (by simp) C1)
        | (go_at_call 42; have hx_ := T1; clear hx_; refine (sIsSet _ _ _ _ _ _ HN.out hm (HI.out.below rfl T1.out)).mono ?_; rw [HS2.out]; rintro e w2 ⟨rfl, hb2⟩; have T2 := Lib.hid (T1.out.trans (hb2.mono T1.out.size)); have c2 := keepC T2.out (by simp) C1)
        | (go_at_call 42; refine (sIsSet _ _ _ _ _ _ HN.out hm (HI.out.below rfl T0.out)).mono ?_; rw [HS.out]; rintro e w1 ⟨rfl, hb1⟩; have T1 := Lib.hid (T0.out.trans (hb1.mono T0.out.size)); have c1 := keepC T1.out (by simp) C1))
      have hg5 : w.heap.size + 1 ≤ w3.heap.size := Nat.le_trans (by simp) T3.out.size
      have HG5 := Lib.hid hg5
      have hrow : w7.ownsRow w.heap.size 3 1 (.slice (some ⟨w3.heap.size, 0, none⟩) N N) N (rowT (fun z => parN l ((bitsN s).take 0) (bitsN t) z) N) := by
        have e : rowT (fun z => parN l ((bitsN s).take 0) (bitsN t) z) N = rowT (fun _ => 0) N := by
          congr 1
        rw [e, rowT_zero]
        have := owns_below (owns_below O5.out HB6.out) HB7.out
        rw [Nat.mul_one] at this
        exact this
      have HROW := Lib.hid hrow
      clear hrow
      obtain ⟨g5, HGG⟩ : ∃ g5, Hid (w3.heap.size = g5) := ⟨_, Lib.hid rfl⟩
      have HG5b : Hid (w.heap.size + 1 ≤ g5) := Lib.hid (by rw [← HGG.out]; exact hg5)
      have HG56 : Hid (g5 < w5.heap.size) := Lib.hid (by rw [← HGG.out]; exact (L5.out _ rfl).2)
      rw [HGG.out] at HROW
      rw [HGG.out]
      clear hg5 hG5
      go_loopw [10] (fun i wr => ∃ k : Nat, k ≤ (bitsN s).length ∧ i = .int .i64 k ∧ wr.ownsRow w.heap.size 3 1 (.slice (some ⟨g5, 0, none⟩) N N) N (rowT (fun z => parN l ((bitsN s).take k) (bitsN t) z) N) ∧ w7.grownBy wr (some g5)) (fun i _ => (bitsN s).length - (intOf i).toNat)
      case atStart => exact ⟨0, Nat.zero_le _, rfl, HROW.out, World.grownBy.refl _ _⟩
      case round =>
        obtain ⟨k, hk, rfl, hr, hgr⟩ := hrel
        have HLN := Lib.hid (LI_len s)
        have HLT := Lib.hid (LI_len t)
        have hlen : ((LI s).length : Int) = ((bitsN s).length : Int) := by rw [HLN.out]
        have hlent : ((LI t).length : Int) = ((bitsN t).length : Int) := by rw [HLT.out]
        have HR := Lib.hid hr
        have HGR := Lib.hid hgr
        clear hr hgr
        by_cases hlt : k < (bitsN s).length
        · have hkl : k < (LI s).length := by rw [HLN.out]; exact hlt
          rcases I6.out with h0 | ⟨b, off, h1, hbg, hbl, hc⟩
          · rw [h0] at hkl; simp at hkl
          · subst h1
            have HR1 := Lib.hid (keepC HB7.out hbl (hc k hkl))
            have HBLK : Hid (b < w7.heap.size) := Lib.hid (Nat.lt_of_lt_of_le hbl HB7.out.size)
            have HBNE : Hid (b ≠ g5) := Lib.hid (by have := HG56.out; omega)
            have hx23 := bits_at s k hlt
            have HTN := Lib.hid (take_snoc s k hlt)
            rw [LI_at s k hlt] at HR1
            obtain ⟨x, HX⟩ : ∃ y, Hid ((bitsN s).getD k 0 = y) := ⟨_, Lib.hid rfl⟩
            rw [HX.out] at HTN hx23 HR1
            have HNXT : Hid ((fun z => parN l ((bitsN s).take k) (bitsN t) z + hitN l ((bitsN t).take (bitsN t).length) x z) = fun z => parN l ((bitsN s).take (k + 1)) (bitsN t) z) := Lib.hid (by
              funext z; rw [HTN.out, parN_snoc, List.take_length])
            have HST0 : Hid ((fun z => parN l ((bitsN s).take k) (bitsN t) z) = (fun z => parN l ((bitsN s).take k) (bitsN t) z + hitN l ((bitsN t).take 0) x z)) := Lib.hid (by
              funext z; simp [hitN])
            clear hc hkl hk
            have hx0 : (0 : Int) ≤ (x : Int) := by omega
            have hx23' : (x : Int) ≤ 23 := by omega
            go_wp2
            go_loopw [11] (fun i wi => ∃ j : Nat, j ≤ (bitsN t).length ∧ i = .int .i64 j ∧ wi.ownsRow w.heap.size 3 1 (.slice (some ⟨g5, 0, none⟩) N N) N (rowT (fun z => parN l ((bitsN s).take k) (bitsN t) z + hitN l ((bitsN t).take j) x z) N) ∧ w7.grownBy wi (some g5)) (fun i _ => (bitsN t).length - (intOf i).toNat)
            case atStart => exact ⟨0, Nat.zero_le _, rfl, by rw [← HST0.out]; exact HR.out, HGR.out⟩
            case round =>
              obtain ⟨j, hj, rfl, hri, hgi⟩ := hrel
              have HRI := Lib.hid hri
              have HGI := Lib.hid hgi
              have r1 := cell_grown hgi HBLK.out HBNE.out HR1.out
              clear hri
              by_cases hjt : j < (bitsN t).length
              · have hjl : j < (LI t).length := by rw [HLT.out]; exact hjt
                rcases I7.out with h0 | ⟨b2, off2, h2, hbg2, hbl2, hc2⟩
                · rw [h0] at hjl; simp at hjl
                · subst h2
                  have r2 := cell_grown hgi hbl2 (by have := HG56.out; have := HB6.out.size; omega) (hc2 j hjl)
                  rw [LI_at t j hjt] at r2
                  have hy23 := bits_at t j hjt
                  have HTJ := Lib.hid (take_snoc t j hjt)
                  obtain ⟨y, HY⟩ : ∃ y, Hid ((bitsN t).getD j 0 = y) := ⟨_, Lib.hid rfl⟩
                  rw [HY.out] at r2 hy23 HTJ
                  obtain ⟨e1, e2⟩ := HEL.out x y
                  obtain ⟨v, hv⟩ : ∃ v : Nat, addN l (x : Int) (y : Int) = (v : Int) := ⟨(addN l (x : Int) (y : Int)).toNat, by omega⟩
                  have HVV := Lib.hid hv
                  rw [hv] at e1 e2
                  have hvN : v < N := by omega
                  obtain ⟨F, HF⟩ : ∃ F, Hid ((fun z => parN l ((bitsN s).take k) (bitsN t) z + hitN l ((bitsN t).take j) x z) = F) := ⟨_, Lib.hid rfl⟩
                  have HFN : Hid ((fun z => F z + (if v = z then 1 else 0)) = fun z => parN l ((bitsN s).take k) (bitsN t) z + hitN l ((bitsN t).take (j + 1)) x z) := Lib.hid (by
                    funext z
                    rw [HTJ.out, hitN_snoc, HVV.out, ← HF.out, Int.toNat_natCast, Nat.add_assoc])
                  have hFb : F v ≤ 600 := by rw [← HF.out]; exact HBD.out k j x v
                  rw [HF.out] at HRI
                  obtain ⟨fv, HFV⟩ : ∃ fv, Hid (F v = fv) := ⟨_, Lib.hid rfl⟩
                  rw [HFV.out] at hFb
                  have hFi : ((fv : Nat) : Int) ≤ 600 := by omega
                  have hy0 : (0 : Int) ≤ (y : Int) := by omega
                  have hy23' : (y : Int) ≤ 23 := by omega
                  have hgb : w.heap.size ≠ g5 := by have := HG5b.out; omega
                  have hw7 : w.heap.size < w7.heap.size := World.block_lt_of_cell? w7 _ c7
                  have c8 := cell_grown hgi hw7 hgb c7
                  have TI := Lib.hid ((T7.out.grown HGI.out T7.out.size (fun q hq => by cases hq; simp only [World.size_alloc]; exact HG5b.out)).drew)
                  have HRD := Lib.hid HRI.out.drew
                  have hvi : ((v : Nat) : Int) < ((N : Nat) : Int) := by omega
                  clear hgi hc2 hjl hv e1 e2 hgb hw7 hFb
                  go_wp2
                  (first | go_region_with (first | (go_at_call 46; refine (sAdd _ _ l _ _ (x : Int) (y : Int) hx0 hx23' hy0 hy23' HN.out HG.out (HI.out.below rfl TI.out)).mono ?_; rw [HVV.out]; rintro e w9 ⟨rfl, hb9⟩; have HR9 := Lib.hid (owns_below HRD.out hb9); have hfr := HR9.out.frozenAt v; have hcell := (HR9.out.cellAt v (by omega)).trans (rowT_at F N v hvN); rw [HFV.out] at hcell; have hst := (HR9.out.stored v (.int .i64 ((F v + 1 : Nat) : Int))).1; rw [rowT_set F N v hvN, HFN.out, HFV.out] at hst; have HST := Lib.hid hst; clear hst)) | fail)
                  all_goals
                    go_wp2
                    go_roundw
                    case rel => exact ⟨j + 1, by omega, by go_num, by simpa using HST.out, grownG_set (grownG_trans (grownG_trans HGI.out (below_grown (Below.refl _ _).drew _)) (below_grown hb9 _)) v _⟩
                    case measure => simp [intOf]; omega
              · obtain rfl : j = (bitsN t).length := by omega
                clear hgi
                go_wp2
                go_roundw
                case rel => exact ⟨k + 1, by omega, by go_num, by rw [← HNXT.out]; exact HRI.out, HGI.out⟩
                case measure => simp [intOf]; omega
        · obtain rfl : k = (bitsN s).length := by omega
          go_wp2
          go_ret
          refine ⟨_, rfl, ?_, HB.out.trans ((T7.out.grown HGR.out T7.out.size (fun q hq => by cases hq; simp only [World.size_alloc]; exact HG5b.out)).mono (by simp))⟩
          have := HR.out
          rw [List.take_length] at this
          rw [tabF_len]
          exact this
theorem own_sl {w : World} {B n : Nat} {v : Value} {l : List Int} (h : w.ownsRow B 3 1 v n (l.map (Value.int .i64))) : ∃ a cap, v = .slice a n cap := by
  obtain ⟨h1, h2⟩ := h
  rcases h2 with ⟨h2, h3⟩ | ⟨g, cap, cur, hv, _⟩
  · obtain rfl : n = 0 := by simpa using h3
    exact ⟨none, 0, h2⟩
  · exact ⟨_, _, hv⟩
theorem own_in {w : World} {B n cap : Nat} {a : Option Addr} {l : List Int} (h : w.ownsRow B 3 1 (.slice a n cap) n (l.map (Value.int .i64))) : Ints w a l := by
  have hl : n = l.length := by have := h.1; simpa using this.symm
  subst hl
  exact own_ints h
end Go.Proofs.YtaacofbmbpkeoaaGreatDoor

namespace Go.Proofs.YtaacofbmbpkeoaaGreatDoor
open Go.RowKit Go.Shelf
set_option maxRecDepth 1000000
set_option maxHeartbeats 1000000 in
theorem each_loopH {n : Nat} {g : Operand} {p : Tmp} {assign body : Code} {Q : Exit → Act → World → Prop} {a : Act} {w : World}
    (s : Nat) (hs : s < 2 ^ 24) (hg : a.eval g = .func (.func 68) #[.int .u64 s] #[]) (B : Nat)
    (I : List Nat → World → Prop) (hI : OwnFrom w.heap.size I) (hT : ∀ pre W, I pre W → TabZ B W) (h0 : I [] w) (a₁ : Nat → Act)
    (hassign : ∀ (l x : Nat) (W : World) (K : Act → World → Prop), K (a₁ x) W →
      assign.wpIn (Fence.wide.inRound l) (n - 1 - 1) Tryz.prog (Exit.then K (fun _ _ _ => False)) { tmps := a.tmps.setIfInBounds p (.int .i64 (x : Nat)), defers := [] } W)
    (hbody : ∀ (l : Nat) (pre : List Nat) (x : Nat) (W : World), w.heap.size ≤ l → (∃ r, W.heap[l]? = some (.loop r)) → x < 24 → s.testBit x = true → pre.length < 24 → I pre W →
      body.wpIn (Fence.wide.inRound l) (n - 1 - 1) Tryz.prog (eachPost I (pre ++ [x]) W) (a₁ x) W)
    (hdone : ∀ (D : Nat) (W : World), w.heap.size ≤ D → I (bitsN s) W → W.heap[D]? = some (.deferred (some [])) →
      Q .normal { a with defers := { target := .collected D, args := #[] } :: a.defers } W) :
    (Code.rangeFunc g #[p] assign body).wpIn Fence.wide n Tryz.prog Q a w := by
  refine wpIn_rangeFunc ?_
  intro fn hfn
  -- the statement's own block of deferred calls, and the loop's record behind it
  generalize hD : w.heap.size = D at *
  let lp : LoopState → Loop := fun st => { state := st, pending := none, fn := fn, tmps := a.tmps, params := #[p], assign := assign, body := body, defers := D }
  have elp : ∀ st, lp st = { state := st, pending := none, fn := fn, tmps := a.tmps, params := #[p], assign := assign, body := body, defers := D } := fun _ => rfl
  let V := (w.alloc (.deferred (some []))).alloc (.loop (lp .ready))
  have vL : V.heap[D + 1]? = some (.loop (lp .ready)) := by
    have h := World.alloc_heap_new (w.alloc (.deferred (some []))) (.loop (lp .ready))
    rwa [World.size_alloc, hD] at h
  have vD : V.heap[D]? = some (.deferred (some [])) := by
    have h := World.alloc_heap_new w (.deferred (some []))
    rw [hD] at h
    exact (Below.heap_alloc _ _ _ (by simp; omega)).trans h
  have vI : I [] V := hI.alloc _ (hI.alloc _ h0)
  have henter : (Instr.enterLoop fn a.tmps #[p] assign body Fence.wide.round).run Tryz.prog w = .ok (D + 1, [{ target := .collected D, args := #[] }]) V := by
    have h := run_enterLoop_outer (P := Tryz.prog) (w := w) fn a.tmps #[p] assign body
    rw [hD] at h
    exact h
  have eg := enters_of (P := Tryz.prog) Tryz.func68 (by kernel_rfl) rfl
  refine ⟨D + 1, [{ target := .collected D, args := #[] }], V, { target := .fn (.func 68) #[], args := #[.int .u64 s, .func (.yield (D + 1)) #[] #[]] }, V, 68,
    #[.int .u64 s, .func (.yield (D + 1)) #[] #[]], V, henter, ?_, fun _ _ => trivial, ?_, fun h => (by simp [Fence.wide] at h), ?_⟩
  · simp only [resolve, hg]
    simp [go_sem]
  · simp [invoke, go_sem, eg _ _]
  -- what holds between two rounds: the caller's invariant, the record ready, the block as it was laid
  refine (each_in (n - 1) s hs B (D + 1) (fun pre W => I pre W ∧ W.heap[D + 1]? = some (.loop (lp .ready)) ∧ W.heap[D]? = some (.deferred (some [])))
    (fun pre W h => hT pre W h.1) ?round V (And.intro vI (And.intro vL vD))).mono ?done
  case round =>
    rintro pre x W ⟨hi, hl, hk⟩ hx hbt hpl
    have hin : D + 1 < W.heap.size := (Array.getElem?_eq_some_iff.1 hl).1
    have hy := run_yield (P := Tryz.prog) (args := #[Value.int .i64 (x : Nat)]) hl (by rw [elp]; rfl)
    have hy2 : (Instr.yield (D + 1) #[Value.int .i64 (x : Nat)]).run Tryz.prog W = .ok (.round (D + 1) fn (a.tmps.setIfInBounds p (.int .i64 (x : Nat))) assign body) W := by
      rw [hy, elp]; simp
    refine ⟨fn, _, assign, body, hy2, roundIn_of_wpIn hfn ?_⟩
    refine hassign (D + 1) x W _ ⟨_, run_beginRound hl (by rw [elp]), ?_⟩
    -- the record is busy: the body
    obtain ⟨U, hU⟩ : ∃ U, W.putObj (D + 1) (.loop { lp .ready with state := .busy }) = U := ⟨_, rfl⟩
    have uI : I pre U := by rw [← hU]; exact hI.putObj _ hi (by omega) hl rfl
    have uL : U.heap[D + 1]? = some (.loop { lp .ready with state := .busy }) := by rw [← hU]; exact World.putObj_heap_same hin
    have uD : U.heap[D]? = some (.deferred (some [])) := by rw [← hU]; exact (World.putObj_heap_other (by omega)).trans hk
    rw [hU]
    refine wpIn_mono (hbody _ pre x U (by omega) ⟨_, uL⟩ hx hbt hpl uI) ?_
    rintro e a3 W3 ⟨rfl, hkeep, hi3⟩
    have l3 := hkeep.same _ _ uL rfl
    have d3 := hkeep.same _ _ uD rfl
    have hend := run_endRound (P := Tryz.prog) none l3
    have hin3 : D + 1 < W3.heap.size := (Array.getElem?_eq_some_iff.1 l3).1
    refine ⟨_, _, hend, rfl, hI.putObj _ hi3 (by omega) l3 rfl, ?_, (World.putObj_heap_other (by omega)).trans d3⟩
    exact World.putObj_heap_same hin3
  case done =>
    rintro e W2 ⟨⟨v, rfl⟩, hi, hl, hk⟩
    have hend := run_endLoop (P := Tryz.prog) hl (by rw [elp]; simp)
    exact ⟨none, _, hend, hdone D _ (by omega) (hI.putObj _ hi (by omega) hl rfl) ((World.putObj_heap_other (by omega)).trans hk)⟩
theorem keepsO_alloc (w : World) (o : Obj) : KeepsOthers w (w.alloc o) := ⟨by simp, fun _ _ ho _ => (Below.heap_alloc _ _ _ (Array.getElem?_eq_some_iff.1 ho).1).trans ho⟩
theorem keepsO_put {w W : World} {k : Nat} {o : Obj} (h : KeepsOthers w W) (hk : w.heap.size ≤ k) : KeepsOthers w (W.putObj k o) :=
  ⟨by simpa using h.size, fun i _ ho hc => (World.putObj_heap_other (by have := (Array.getElem?_eq_some_iff.1 ho).1; omega)).trans (h.same i _ ho hc)⟩
set_option maxHeartbeats 1000000 in
theorem each_inner {n l₀ : Nat} {g : Operand} {p : Tmp} {assign body : Code} {Q : Exit → Act → World → Prop} {a : Act} {w : World}
    (s : Nat) (hs : s < 2 ^ 24) (hl0 : ∃ r, w.heap[l₀]? = some (.loop r)) (hg : a.eval g = .func (.func 68) #[.int .u64 s] #[]) (B : Nat)
    (I : List Nat → World → Prop) (hI : OwnFrom w.heap.size I) (hT : ∀ pre W, I pre W → TabZ B W) (h0 : I [] w) (a₁ : Nat → Act)
    (hassign : ∀ (l x : Nat) (W : World) (K : Act → World → Prop), K (a₁ x) W →
      assign.wpIn (Fence.wide.inRound l) (n - 1 - 1) Tryz.prog (Exit.then K (fun _ _ _ => False)) { tmps := a.tmps.setIfInBounds p (.int .i64 (x : Nat)), defers := [] } W)
    (hbody : ∀ (l : Nat) (pre : List Nat) (x : Nat) (W : World), x < 24 → s.testBit x = true → pre.length < 24 → I pre W →
      body.wpIn (Fence.wide.inRound l) (n - 1 - 1) Tryz.prog (eachPost I (pre ++ [x]) W) (a₁ x) W)
    (hdone : ∀ (W : World), KeepsOthers w W → I (bitsN s) W → Q .normal a W) :
    (Code.rangeFunc g #[p] assign body).wpIn (Fence.wide.inRound l₀) n Tryz.prog Q a w := by
  refine wpIn_rangeFunc ?_
  intro fn hfn
  obtain ⟨r0, hr0⟩ := hl0
  generalize hD : w.heap.size = D at *
  let lp : LoopState → Loop := fun st => { state := st, pending := none, fn := fn, tmps := a.tmps, params := #[p], assign := assign, body := body, defers := r0.defers }
  have elp : ∀ st, lp st = { state := st, pending := none, fn := fn, tmps := a.tmps, params := #[p], assign := assign, body := body, defers := r0.defers } := fun _ => rfl
  let V := w.alloc (.loop (lp .ready))
  have vL : V.heap[D]? = some (.loop (lp .ready)) := by
    have h := World.alloc_heap_new w (.loop (lp .ready))
    rwa [hD] at h
  have vI : I [] V := hI.alloc _ h0
  have vK : KeepsOthers w V := keepsO_alloc w _
  have henter : (Instr.enterLoop fn a.tmps #[p] assign body (Fence.wide.inRound l₀).round).run Tryz.prog w = .ok (D, []) V := by
    have h := run_enterLoop_inner (P := Tryz.prog) hr0 fn a.tmps #[p] assign body
    rw [hD] at h
    exact h
  have eg := enters_of (P := Tryz.prog) Tryz.func68 (by kernel_rfl) rfl
  refine ⟨D, [], V, { target := .fn (.func 68) #[], args := #[.int .u64 s, .func (.yield D) #[] #[]] }, V, 68,
    #[.int .u64 s, .func (.yield D) #[] #[]], V, henter, ?_, fun _ _ => trivial, ?_, fun h => (by simp [Fence.wide] at h), CallsIn.inRound l₀ ?_⟩
  · simp only [resolve, hg]
    simp [go_sem]
  · simp [invoke, go_sem, eg _ _]
  refine (each_in (n - 1) s hs B D (fun pre W => I pre W ∧ W.heap[D]? = some (.loop (lp .ready)) ∧ KeepsOthers w W)
    (fun pre W h => hT pre W h.1) ?round V (And.intro vI (And.intro vL vK))).mono ?done
  case round =>
    rintro pre x W ⟨hi, hl, hk⟩ hx hbt hpl
    have hin : D < W.heap.size := (Array.getElem?_eq_some_iff.1 hl).1
    have hy := run_yield (P := Tryz.prog) (args := #[Value.int .i64 (x : Nat)]) hl (by rw [elp]; rfl)
    have hy2 : (Instr.yield D #[Value.int .i64 (x : Nat)]).run Tryz.prog W = .ok (.round D fn (a.tmps.setIfInBounds p (.int .i64 (x : Nat))) assign body) W := by
      rw [hy, elp]; simp
    refine ⟨fn, _, assign, body, hy2, roundIn_of_wpIn hfn ?_⟩
    refine hassign D x W _ ⟨_, run_beginRound hl (by rw [elp]), ?_⟩
    obtain ⟨U, hU⟩ : ∃ U, W.putObj D (.loop { lp .ready with state := .busy }) = U := ⟨_, rfl⟩
    have uI : I pre U := by rw [← hU]; exact hI.putObj _ hi (by omega) hl rfl
    have uL : U.heap[D]? = some (.loop { lp .ready with state := .busy }) := by rw [← hU]; exact World.putObj_heap_same hin
    have uK : KeepsOthers w U := by rw [← hU]; exact keepsO_put hk (by omega)
    rw [hU]
    refine wpIn_mono (hbody _ pre x U hx hbt hpl uI) ?_
    rintro e a3 W3 ⟨rfl, hkeep, hi3⟩
    have l3 := hkeep.same _ _ uL rfl
    have hend := run_endRound (P := Tryz.prog) none l3
    have hin3 : D < W3.heap.size := (Array.getElem?_eq_some_iff.1 l3).1
    refine ⟨_, _, hend, rfl, hI.putObj _ hi3 (by omega) l3 rfl, ?_, keepsO_put (uK.trans hkeep) (by omega)⟩
    exact World.putObj_heap_same hin3
  case done =>
    rintro e W2 ⟨⟨v, rfl⟩, hi, hl, hk⟩
    have hend := run_endLoop (P := Tryz.prog) hl (by rw [elp]; simp)
    exact ⟨none, _, hend, hdone _ (keepsO_put hk (by omega)) (hI.putObj _ hi (by omega) hl rfl)⟩
end Go.Proofs.YtaacofbmbpkeoaaGreatDoor
