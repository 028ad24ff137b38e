/- The program's own products of tables. -/
import Derived.Test.YthlpjiibjlaebaaDoorConSpec
import Derived.Test.YthlpjiibjlaebaaDoorWthI
import Derived.Test.YthlpjiibjlaebaaDoorMGAJ
import Derived.Deep.RegionHeld3
import Derived.Deep.DeepCutAuto
namespace Go.Proofs.YthlpjiibjlaebaaDoor
open Go.RowKit
set_option maxRecDepth 1000000
theorem drew_of {w7 wi : World} {g : Nat} (_ : w7.grownBy wi (some g)) : Below wi.heap.size wi wi.drew := (Below.refl _ _).drew
theorem iTblI {l : List Int} (hg : grpB l = true) (w : World) (a : Option Addr) (p : List Int) (n cap : Nat) (hn : n = p.length) (hm : n ≤ 9223372036854775807) (hi : Ints w a p) :
    Calls Tryd.prog 96 #[tV (l.getD 0 1) (l.getD 1 1) (l.getD 2 1), .slice a n cap] w fun e w' => e = .returned (.bool (tbB l p)) ∧ Below w.heap.size w w' := by
  have HE : Hid (tbB l p = ((p.all fun x => tOk x) && decide ((n : Int) = prodI l))) := Lib.hid (by unfold tbB; rw [hg, ← hn]; rfl)
  have HT := Lib.hid (tri_grp hg)
  have HPP : Hid (prodI l = l.getD 0 1 * l.getD 1 1 * l.getD 2 1) := Lib.hid (prod_pad (grpB_true hg).1)
  obtain ⟨u, EP⟩ : ∃ p, Hid (l.getD 0 1 = p) := ⟨_, Lib.hid rfl⟩
  obtain ⟨v, EQ⟩ : ∃ q, Hid (l.getD 1 1 = q) := ⟨_, Lib.hid rfl⟩
  obtain ⟨r, ER⟩ : ∃ r, Hid (l.getD 2 1 = r) := ⟨_, Lib.hid rfl⟩
  rw [EP.out, EQ.out, ER.out] at HT HPP
  rw [EP.out, EQ.out, ER.out]
  have HPR := Lib.hid (fun (W : World) => iProduct W u v r HT.out)
  rw [← HPP.out] at HPR
  obtain ⟨P, HP⟩ : ∃ P, Hid (prodI l = P) := ⟨_, Lib.hid rfl⟩
  rw [HP.out] at HPR HE
  have HB := Lib.hid (Joins.below_alloc1 w (.cells #[.int .i64 u, .int .i64 v, .int .i64 r] 51))
  have HAL := Lib.hid (heap_alloc_new w (.cells #[.int .i64 u, .int .i64 v, .int .i64 r] 51))
  obtain ⟨y0, y1, y2, _, _, _⟩ := trip_cell HAL.out
  have HI := Lib.hid (hi.below rfl HB.out)
  have HW := Lib.hid (fun (W : World) (h : Ints W a p) => iWthn8 W a p n cap 10000 (by decide) (by decide) hn hm h)
  rw [show (fun x => wOk8 10000 x) = fun x => tOk x from rfl] at HW
  obtain ⟨b, hb⟩ : ∃ b, (p.all fun x => tOk x) = b := ⟨_, rfl⟩
  have HBB := Lib.hid hb
  rw [hb] at HW HE
  clear hg hn hb hi
  by_cases h : (n : Int) = P
  · have hd : ((n : Int) == P) = true := by simp [h]
    have HV : Hid (tbB l p = b) := Lib.hid (by rw [HE.out, decide_eq_true h, Bool.and_true])
    rw [HV.out]
    clear h
    go_enter Tryd.func96, Tryd.ntmps96
    go_wp2_with (first
      | (go_at_call 112; refine (HW.out _ (HI.out.below rfl T1.out)).mono ?_; rintro e w2 ⟨rfl, hb2⟩)
      | (go_at_call 78; refine (HPR.out _).mono ?_; rintro e w1 ⟨rfl, hb1⟩; have T1 := Lib.hid hb1))
    go_ret
    exact ⟨rfl, HB.out.trans ((T1.out.trans (hb2.mono T1.out.size)).mono (by simp))⟩
  · have hd : ((n : Int) == P) = false := by simpa using h
    have HV : Hid (tbB l p = false) := Lib.hid (by rw [HE.out, decide_eq_false h, Bool.and_false])
    rw [HV.out]
    go_enter Tryd.func96, Tryd.ntmps96
    go_wp2_with (go_at_call 78; refine (HPR.out _).mono ?_; rintro e w1 ⟨rfl, hb1⟩)
    go_ret
    exact ⟨rfl, HB.out.trans (hb1.mono (by simp))⟩
/-- The places of two elements, their sums, and the element of these: by letters. -/
theorem con_el {l : List Int} (hg : grpB l = true) : ∃ (U V S : Int → Int) (A B C : Int → Int → Int),
    (∀ (W : World) (x : Int), 0 ≤ x → x ≤ 23 → Calls Tryd.prog 97 #[tV (l.getD 0 1) (l.getD 1 1) (l.getD 2 1), .int .i64 x] W fun e w' => e = .returned (tV (U x) (V x) (S x)) ∧ Below W.heap.size W w') ∧
    (∀ (W : World) (x y : Int), Calls Tryd.prog 99 #[tV (l.getD 0 1) (l.getD 1 1) (l.getD 2 1), tV (U x) (V x) (S x), tV (U y) (V y) (S y)] W fun e w' => e = .returned (tV (A x y) (B x y) (C x y)) ∧ Below W.heap.size W w') ∧
    (∀ (W : World) (x y : Int), Calls Tryd.prog 98 #[tV (l.getD 0 1) (l.getD 1 1) (l.getD 2 1), tV (A x y) (B x y) (C x y)] W fun e w' => e = .returned (.int .i64 (addN l x y)) ∧ Below W.heap.size W w') := by
  have HT := tri_grp hg
  refine ⟨fun x => x % l.getD 0 1, fun x => x / l.getD 0 1 % l.getD 1 1, fun x => x / l.getD 0 1 / l.getD 1 1 % l.getD 2 1, _, _, _, fun W x h0 h1 => iPlaces W _ _ _ x HT h0 h1, fun W x y => iAdd W _ _ _ _ _ _ _ _ _ HT (emod_b HT.p1) (emod_b HT.q1) (emod_b HT.r1) (emod_b HT.p1) (emod_b HT.q1) (emod_b HT.r1), fun W x y => ?_⟩
  rw [add_tri (grpB_true hg).1 x y (by have := HT.p1; omega)]
  exact iElement W _ _ _ _ _ _ HT (emod_b HT.p1) (emod_b HT.q1) (emod_b HT.r1)
set_option maxHeartbeats 4000000 in
theorem iCnv (w : World) (a b c : Option Addr) (l p q : List Int) (n cap m cb k3 cc : Nat) (hn : n = l.length) (hm : n ≤ 9223372036854775807) (hi : Ints w a l) (hn2 : m = p.length) (hm2 : m ≤ 9223372036854775807) (hj : Ints w b p) (hn3 : k3 = q.length) (hm3 : k3 ≤ 9223372036854775807) (hl : Ints w c q) :
    Calls Tryd.prog 41 #[.agg #[.slice a n cap], .slice b m cb, .slice c k3 cc] w fun e w' => ∃ v, e = .returned v ∧ w'.ownsRow w.heap.size 3 1 v (cvE l p q).length ((cvE l p q).map (Value.int .i64)) ∧ Below w.heap.size w w' := by
  have HI := Lib.hid (ints_alloc hi (.cells #[.slice a n cap] 26))
  have HN := Lib.hid hn
  have C1 := newC w (.slice a n cap) 26 (n := w.heap.size) rfl
  have HB := Lib.hid (Joins.below_alloc1 w (.cells #[.slice a n cap] 26))
  have T0 := Lib.hid (Below.refl (w.alloc (.cells #[.slice a n cap] 26)).heap.size (w.alloc (.cells #[.slice a n cap] 26)))
  have HJ := Lib.hid (ints_alloc hj (.cells #[.slice a n cap] 26))
  have HL := Lib.hid (ints_alloc hl (.cells #[.slice a n cap] 26))
  have HM := Lib.hid hn2
  have HK := Lib.hid hn3
  obtain ⟨i0, hi0, hz0, hz1, hz2⟩ := info_parts intInfo
  clear hi hn hj hn2 hl hn3
  cases hab : cvB l p q with
  | false =>
    rw [show cvE l p q = [] by unfold cvE; rw [if_neg (by simp [hab])]]
    cases hg : grpB l with
    | false =>
      have HG := Lib.hid hg
      clear hab hg
      go_enter Tryd.func41, Tryd.ntmps41
      go_wp2_with (go_at_call 95; refine (iOrders _ _ _ _ _ HN.out hm (HI.out.below rfl T0.out)).mono ?_; unfold OrdersPost; rw [HG.out]; rintro e w1 ⟨u', v', r', rfl, huvr, hb1⟩; clear huvr; have T1 := Lib.hid ((T0.out.trans (hb1.mono T0.out.size)).trans ((Joins.below_alloc1 w1 (.cells #[.int .i64 u', .int .i64 v', .int .i64 r'] 51)).mono (Nat.le_trans T0.out.size hb1.size))))
      go_ret
      exact ⟨_, rfl, ⟨rfl, .inl ⟨rfl, rfl⟩⟩, HB.out.trans (T1.out.mono (by simp))⟩
    | true =>
      have HG := Lib.hid hg
      have HTP := Lib.hid (fun (W : World) h => iTblI hg W b p m cb HM.out hm2 h)
      have HTQ := Lib.hid (fun (W : World) h => iTblI hg W c q k3 cc HK.out hm3 h)
      obtain ⟨u', EP⟩ : ∃ p, Hid (l.getD 0 1 = p) := ⟨_, Lib.hid rfl⟩
      obtain ⟨v', EQ⟩ : ∃ q, Hid (l.getD 1 1 = q) := ⟨_, Lib.hid rfl⟩
      obtain ⟨r', ER⟩ : ∃ r, Hid (l.getD 2 1 = r) := ⟨_, Lib.hid rfl⟩
      rw [EP.out, EQ.out, ER.out] at HTP HTQ
      cases hp : tbB l p with
      | false =>
        rw [hp] at HTP
        clear hab hg hp
        go_enter Tryd.func41, Tryd.ntmps41
        go_wp2_with (first
          | (go_at_call 96; refine (HTP.out _ (HJ.out.below rfl T1.out)).mono ?_; rintro e w2 ⟨rfl, hb2⟩; have T2 := Lib.hid (T1.out.trans (hb2.mono T1.out.size)); have K2 := Lib.hid hb2; obtain ⟨z0, z1, z2, _, _, _⟩ := trip_cell (keepH K2.out (by simp) HAL.out))
          | (go_at_call 95; refine (iOrders _ _ _ _ _ HN.out hm (HI.out.below rfl T0.out)).mono ?_; unfold OrdersPost; rw [HG.out]; rintro e w1 ⟨u', v', r', rfl, huvr, hb1⟩; obtain ⟨e1, e2, e3⟩ := huvr rfl; rw [EP.out] at e1; rw [EQ.out] at e2; rw [ER.out] at e3; subst e1 e2 e3; have T1 := Lib.hid ((T0.out.trans (hb1.mono T0.out.size)).trans ((Joins.below_alloc1 w1 (.cells #[.int .i64 u', .int .i64 v', .int .i64 r'] 51)).mono (Nat.le_trans T0.out.size hb1.size))); have HAL := Lib.hid (heap_alloc_new w1 (.cells #[.int .i64 u', .int .i64 v', .int .i64 r'] 51)); obtain ⟨y0, y1, y2, _, _, _⟩ := trip_cell HAL.out; clear hb1 huvr))
        go_ret
        exact ⟨_, rfl, ⟨rfl, .inl ⟨rfl, rfl⟩⟩, HB.out.trans (T2.out.mono (by simp))⟩
      | true =>
        rw [hp] at HTP
        have hq : tbB l q = false := by
          unfold cvB at hab
          rw [hp, Bool.true_and] at hab
          exact hab
        rw [hq] at HTQ
        clear hab hg hp hq
        go_enter Tryd.func41, Tryd.ntmps41
        go_wp2_with (first
          | (go_at_call 96; have hx_ := T2; clear hx_; refine (HTQ.out _ (HL.out.below rfl T2.out)).mono ?_; rintro e w3 ⟨rfl, hb3⟩; have T3 := Lib.hid (T2.out.trans (hb3.mono T2.out.size)); have K3 := Lib.hid (K2.out.trans (hb3.mono K2.out.size)); clear hb3)
          | (go_at_call 96; refine (HTP.out _ (HJ.out.below rfl T1.out)).mono ?_; rintro e w2 ⟨rfl, hb2⟩; have T2 := Lib.hid (T1.out.trans (hb2.mono T1.out.size)); have K2 := Lib.hid hb2; obtain ⟨z0, z1, z2, _, _, _⟩ := trip_cell (keepH K2.out (by simp) HAL.out))
          | (go_at_call 95; refine (iOrders _ _ _ _ _ HN.out hm (HI.out.below rfl T0.out)).mono ?_; unfold OrdersPost; rw [HG.out]; rintro e w1 ⟨u', v', r', rfl, huvr, hb1⟩; obtain ⟨e1, e2, e3⟩ := huvr rfl; rw [EP.out] at e1; rw [EQ.out] at e2; rw [ER.out] at e3; subst e1 e2 e3; have T1 := Lib.hid ((T0.out.trans (hb1.mono T0.out.size)).trans ((Joins.below_alloc1 w1 (.cells #[.int .i64 u', .int .i64 v', .int .i64 r'] 51)).mono (Nat.le_trans T0.out.size hb1.size))); have HAL := Lib.hid (heap_alloc_new w1 (.cells #[.int .i64 u', .int .i64 v', .int .i64 r'] 51)); obtain ⟨y0, y1, y2, _, _, _⟩ := trip_cell HAL.out; clear hb1 huvr))
        go_ret
        exact ⟨_, rfl, ⟨rfl, .inl ⟨rfl, rfl⟩⟩, HB.out.trans (T3.out.mono (by simp))⟩
  | true =>
    have hp : tbB l p = true := by unfold cvB at hab; exact (Bool.and_eq_true_iff.1 hab).1
    have hq : tbB l q = true := by unfold cvB at hab; exact (Bool.and_eq_true_iff.1 hab).2
    obtain ⟨bp, hg, lp⟩ := tbB_yes hp
    obtain ⟨bq, _, lq⟩ := tbB_yes hq
    have hP := (ords_grp hg).prod
    have hl : k3 = m := by have h1 := HM.out; have h2 := HK.out; omega
    subst hl
    have hk24 : k3 ≤ 24 := by have h1 := HM.out; omega
    have hk1 : 1 ≤ k3 := by have h1 := HM.out; omega
    have HPN : Hid (prodI l = (k3 : Int)) := Lib.hid (by rw [HM.out]; exact lp.symm)
    have HRES : Hid (cvE l p q = zrow (cvO l p q k3 k3) k3) := Lib.hid (by unfold cvE; rw [if_pos hab, ← HM.out])
    rw [HRES.out, zrow_len]
    have HP := Lib.hid hp
    have HQ := Lib.hid hq
    have HBP := Lib.hid bp
    have HBQ := Lib.hid bq
    have HG := Lib.hid hg
    have HBD := Lib.hid (cvI_all (l := l) bp bq HK.out HM.out hk24)
    have HEL : Hid (∀ x y : Int, 0 ≤ addN l x y ∧ addN l x y < (k3 : Int)) := Lib.hid (fun x y => by have := addN_in (ords_grp hg) x y; rw [HPN.out] at this; exact this)
    have HTP := Lib.hid (fun (W : World) h => iTblI hg W b p k3 cb HM.out hm2 h)
    have HTQ := Lib.hid (fun (W : World) h => iTblI hg W c q k3 cc HK.out hm3 h)
    rw [HP.out] at HTP
    rw [HQ.out] at HTQ
    obtain ⟨U, V, S, A, B, C, hpl, had, hel⟩ := con_el hg
    have HPL := Lib.hid hpl
    have HAD := Lib.hid had
    have HEL2 := Lib.hid hel
    obtain ⟨u', EP⟩ : ∃ p, Hid (l.getD 0 1 = p) := ⟨_, Lib.hid rfl⟩
    obtain ⟨v', EQ⟩ : ∃ q, Hid (l.getD 1 1 = q) := ⟨_, Lib.hid rfl⟩
    obtain ⟨r', ER⟩ : ∃ r, Hid (l.getD 2 1 = r) := ⟨_, Lib.hid rfl⟩
    rw [EP.out, EQ.out, ER.out] at HTP HTQ HPL HAD HEL2
    clear hab hp hq bp bq hg lp lq hP hpl had hel
    go_enter Tryd.func41, Tryd.ntmps41
    go_wp2_with (first
      | (at_make; refine wpList_make_full _ rfl _ _ 24 rfl w.heap.size 3 i0 (.int .i64 0) 1 Tryd.underlying24 hi0 hz0 hz1 .i64 .i64 _ _ k3 rfl rfl (by rfl) (by rfl) (by rw [hz2]; omega) (by unfold maxLen; omega) (Nat.le_trans (by simp) T3.out.size) ?_; intro w5 hown hgrow; have T5 := Lib.hid (T3.out.grown hgrow T3.out.size (fun q hq => by cases hq)); have K5 := Lib.hid (K3.out.grown hgrow K3.out.size (fun q hq => by cases hq)); have O5 := Lib.hid hown; have L5 := Lib.hid hown.lt)
      | (go_at_call 96; have hx_ := T2; clear hx_; refine (HTQ.out _ (HL.out.below rfl T2.out)).mono ?_; rintro e w3 ⟨rfl, hb3⟩; have T3 := Lib.hid (T2.out.trans (hb3.mono T2.out.size)); have K3 := Lib.hid (K2.out.trans (hb3.mono K2.out.size)); clear hb3)
      | (go_at_call 96; refine (HTP.out _ (HJ.out.below rfl T1.out)).mono ?_; rintro e w2 ⟨rfl, hb2⟩; have T2 := Lib.hid (T1.out.trans (hb2.mono T1.out.size)); have K2 := Lib.hid hb2; obtain ⟨z0, z1, z2, _, _, _⟩ := trip_cell (keepH K2.out (by simp) HAL.out))
      | (go_at_call 95; refine (iOrders _ _ _ _ _ HN.out hm (HI.out.below rfl T0.out)).mono ?_; unfold OrdersPost; rw [HG.out]; rintro e w1 ⟨u', v', r', rfl, huvr, hb1⟩; obtain ⟨e1, e2, e3⟩ := huvr rfl; rw [EP.out] at e1; rw [EQ.out] at e2; rw [ER.out] at e3; subst e1 e2 e3; have T1 := Lib.hid ((T0.out.trans (hb1.mono T0.out.size)).trans ((Joins.below_alloc1 w1 (.cells #[.int .i64 u', .int .i64 v', .int .i64 r'] 51)).mono (Nat.le_trans T0.out.size hb1.size))); have HAL := Lib.hid (heap_alloc_new w1 (.cells #[.int .i64 u', .int .i64 v', .int .i64 r'] 51)); obtain ⟨y0, y1, y2, _, _, _⟩ := trip_cell HAL.out; clear hb1 huvr))
    obtain ⟨g5, HGG⟩ : ∃ g5, Hid (w3.heap.size = g5) := ⟨_, Lib.hid rfl⟩
    have HG5 : Hid (w.heap.size + 1 ≤ g5) := Lib.hid (by rw [← HGG.out]; exact Nat.le_trans (by simp) T3.out.size)
    have HG5O : Hid (w1.heap.size < g5) := Lib.hid (by rw [← HGG.out]; have := K3.out.size; simp at this; omega)
    have HG56 : Hid (g5 < w5.heap.size) := Lib.hid (by rw [← HGG.out]; exact (L5.out _ rfl).2)
    have HROW : Hid (w5.ownsRow w.heap.size 3 1 (.slice (some ⟨w3.heap.size, 0, none⟩) k3 k3) k3 (zrowV (cvO l p q k3 0) k3)) := Lib.hid (by
      have e : zrowV (cvO l p q k3 0) k3 = (madeCells #[Value.int .i64 0] k3).toList := zrowV_zero k3
      rw [e]
      have := O5.out
      rw [Nat.mul_one] at this
      exact this)
    have HO5 : Hid (w5.heap[w1.heap.size]? = some (.cells #[.int .i64 u', .int .i64 v', .int .i64 r'] 51 (0, 0))) := Lib.hid (keepH K5.out (by simp) HAL.out)
    rw [HGG.out] at HROW
    rw [HGG.out]
    have HBL : Hid (∀ (a' : Option Addr) (l' : List Int), Ints (w.alloc (.cells #[.slice a n cap] 26)) a' l' → ∀ k, k < l'.length → ∃ bb off, a' = some ⟨bb, off, none⟩ ∧ bb < w5.heap.size ∧ bb ≠ g5 ∧ w5.cell? ⟨bb, off + k, none⟩ = some (.int .i64 (l'.getD k 0))) := Lib.hid (fun a' l' h k hk => by
      rcases h with h0 | ⟨bb, off, ha, hbl, hc⟩
      · rw [h0] at hk; simp at hk
      · refine ⟨bb, off, ha, Nat.lt_of_lt_of_le hbl T5.out.size, ?_, keepC T5.out hbl (hc k hk)⟩
        have := HG5.out
        simp at hbl
        omega)
    go_loopw [40] (fun i wr => ∃ k : Nat, k ≤ k3 ∧ i = .int .i64 k ∧ wr.ownsRow w.heap.size 3 1 (.slice (some ⟨g5, 0, none⟩) k3 k3) k3 (zrowV (cvO l p q k3 k) k3) ∧ w5.grownBy wr (some g5)) (fun i _ => k3 - (intOf i).toNat)
    case atStart => exact ⟨0, Nat.zero_le _, rfl, HROW.out, World.grownBy.refl _ _⟩
    case round =>
      obtain ⟨k, hk, rfl, hr, hgr⟩ := hrel
      have HR := Lib.hid hr
      have HGR := Lib.hid hgr
      by_cases hlt : k < k3
      · obtain ⟨ba, oa, hba, hbal, hbag, hpc⟩ := HBL.out _ _ HJ.out k (by rw [← HM.out]; exact hlt)
        subst hba
        have r0 := cell_grown8 hgr hbal hbag hpc
        obtain ⟨x1, x2⟩ := HBP.out k (by rw [← HM.out]; exact hlt)
        have HX0 : Hid (∀ j, cvS l p q k j (cvI l p q k (cvO l p q k3 k) j) = cvI l p q k (cvO l p q k3 k) (j + 1)) := Lib.hid (fun j => rfl)
        have HNXT : Hid (cvI l p q k (cvO l p q k3 k) k3 = cvO l p q k3 (k + 1)) := Lib.hid rfl
        have HST0 : Hid (cvO l p q k3 k = cvI l p q k (cvO l p q k3 k) 0) := Lib.hid rfl
        have HBK : Hid (∀ j, j ≤ k3 → ∀ z, -100000000000 ≤ cvI l p q k (cvO l p q k3 k) j z ∧ cvI l p q k (cvO l p q k3 k) j z ≤ 100000000000) := Lib.hid (fun j hj z => HBD.out k j hlt hj z)
        unfold cvS at HX0
        obtain ⟨x, hx⟩ : ∃ x, p.getD k 0 = x := ⟨_, rfl⟩
        rw [hx] at r0 x1 x2 HX0
        have HOR := Lib.hid ((hgr.block w1.heap.size (Array.getElem?_eq_some_iff.1 HO5.out).1 (fun e => by have := HG5O.out; cases e; omega)).trans HO5.out)
        obtain ⟨o0, o1, o2, _, _, _⟩ := trip_cell HOR.out
        have hk0 : (0 : Int) ≤ (k : Int) := by omega
        have hk23 : (k : Int) ≤ 23 := by omega
        have HPK := Lib.hid (fun (W : World) => HPL.out W (k : Int) hk0 hk23)
        have HADK := Lib.hid (fun (W : World) (y : Int) => HAD.out W (k : Int) y)
        obtain ⟨U0, HU0⟩ : ∃ z, Hid (U (k : Int) = z) := ⟨_, Lib.hid rfl⟩
        obtain ⟨V0, HV0⟩ : ∃ z, Hid (V (k : Int) = z) := ⟨_, Lib.hid rfl⟩
        obtain ⟨S0, HS0⟩ : ∃ z, Hid (S (k : Int) = z) := ⟨_, Lib.hid rfl⟩
        rw [HU0.out, HV0.out, HS0.out] at HPK HADK
        clear hx hpc hbal hbag hr hgr
        go_wp2_with (go_at_call 97; refine (HPK.out _).mono ?_; rintro e w6 ⟨rfl, hb6⟩; have B6 := Lib.hid (hb6.alloc hb6.size (.cells #[.int .i64 U0, .int .i64 V0, .int .i64 S0] 51)); have HPC := Lib.hid (heap_alloc_new w6 (.cells #[.int .i64 U0, .int .i64 V0, .int .i64 S0] 51)); have hs6 := hb6.size; clear hb6)
        obtain ⟨w7, HW7⟩ : ∃ w7, Hid (w6.alloc (.cells #[.int .i64 U0, .int .i64 V0, .int .i64 S0] 51) = w7) := ⟨_, Lib.hid rfl⟩
        have HBP6 : Hid (g5 < w6.heap.size) := Lib.hid (by have h1 := HG56.out; have h2 := HGR.out.size; omega)
        rw [HW7.out] at B6 HPC
        rw [HW7.out]
        have HR7 := Lib.hid (owns_below HR.out B6.out)
        have HO7 := Lib.hid (keepH B6.out (Array.getElem?_eq_some_iff.1 HOR.out).1 HOR.out)
        have HG7 := Lib.hid (grownG_trans HGR.out (below_grown B6.out (some g5)))
        clear hs6
        go_loopw [50] (fun i wi => ∃ j : Nat, j ≤ k3 ∧ i = .int .i64 j ∧ wi.ownsRow w.heap.size 3 1 (.slice (some ⟨g5, 0, none⟩) k3 k3) k3 (zrowV (cvI l p q k (cvO l p q k3 k) j) k3) ∧ w7.grownBy wi (some g5)) (fun i _ => k3 - (intOf i).toNat)
        case atStart => exact ⟨0, Nat.zero_le _, rfl, by rw [← HST0.out]; exact HR7.out, World.grownBy.refl _ _⟩
        case round =>
          obtain ⟨j, hj, rfl, hri, hgi⟩ := hrel
          have HRI := Lib.hid hri
          have HGI := Lib.hid hgi
          clear hri
          by_cases hjt : j < k3
          · obtain ⟨bb, ob, hbb, hbbl, hbbg, hqc⟩ := HBL.out _ _ HL.out j (by rw [← HK.out]; exact hjt)
            subst hbb
            obtain ⟨y1, y2⟩ := HBQ.out j (by rw [← HK.out]; exact hjt)
            have hx1 := HX0.out j
            obtain ⟨y, hy⟩ : ∃ y, q.getD j 0 = y := ⟨_, rfl⟩
            rw [hy] at hqc y1 y2 hx1
            have rq := cell_grown8 (grownG_trans HG7.out hgi) hbbl hbbg hqc
            obtain ⟨e1, e2⟩ := HEL.out k j
            have HPJ := Lib.hid (fun (W : World) => HPL.out W (j : Int) (by omega) (by omega))
            have HADJ := Lib.hid (fun (W : World) => HADK.out W (j : Int))
            have HELJ := Lib.hid (fun (W : World) => HEL2.out W (k : Int) (j : Int))
            obtain ⟨z, hz⟩ : ∃ z : Nat, addN l (k : Int) (j : Int) = (z : Int) := ⟨(addN l (k : Int) (j : Int)).toNat, by omega⟩
            rw [hz] at e1 e2 hx1 HELJ
            rw [Int.toNat_natCast] at hx1
            obtain ⟨U1, HU1⟩ : ∃ z, Hid (U (j : Int) = z) := ⟨_, Lib.hid rfl⟩
            obtain ⟨V1, HV1⟩ : ∃ z, Hid (V (j : Int) = z) := ⟨_, Lib.hid rfl⟩
            obtain ⟨S1, HS1⟩ : ∃ z, Hid (S (j : Int) = z) := ⟨_, Lib.hid rfl⟩
            obtain ⟨A1, HA1⟩ : ∃ z, Hid (A (k : Int) (j : Int) = z) := ⟨_, Lib.hid rfl⟩
            obtain ⟨B1, HB1⟩ : ∃ z, Hid (B (k : Int) (j : Int) = z) := ⟨_, Lib.hid rfl⟩
            obtain ⟨C1', HC1⟩ : ∃ z, Hid (C (k : Int) (j : Int) = z) := ⟨_, Lib.hid rfl⟩
            rw [HU1.out, HV1.out, HS1.out] at HPJ HADJ
            rw [HA1.out, HB1.out, HC1.out] at HADJ HELJ
            have hzn : z < k3 := by omega
            obtain ⟨f1, f2⟩ := HBK.out j hj z
            obtain ⟨F, HF⟩ : ∃ F, Hid (cvI l p q k (cvO l p q k3 k) j = F) := ⟨_, Lib.hid rfl⟩
            rw [HF.out] at hx1 f1 f2 HRI
            have HX1 := Lib.hid hx1
            obtain ⟨m1, m2⟩ := prod_bnd8 x1 x2 y1 y2
            obtain ⟨fz, HFZ⟩ : ∃ fz, Hid (F z = fz) := ⟨_, Lib.hid rfl⟩
            rw [HFZ.out] at f1 f2
            have hwm : IntKind.i64.wrap (x * y) = x * y := by rw [IntKind.wrap_i64]; omega
            have hwa : IntKind.i64.wrap (fz + x * y) = fz + x * y := by rw [IntKind.wrap_i64]; omega
            have HOI := Lib.hid ((hgi.block w1.heap.size (Array.getElem?_eq_some_iff.1 HO7.out).1 (fun e => by have := HG5O.out; cases e; omega)).trans HO7.out)
            have HPI := Lib.hid ((hgi.block w6.heap.size (Array.getElem?_eq_some_iff.1 HPC.out).1 (fun e => by have := HBP6.out; cases e; omega)).trans HPC.out)
            clear hgi hqc hy hz hx1 hbbl hbbg
            go_wp2
            have WD := Lib.hid (drew_of HGI.out)
            obtain ⟨o3, o4, o5, _, _, _⟩ := trip_cell HOI.out
            obtain ⟨p3, p4, p5, _, _, _⟩ := trip_cell HPI.out
            go_region_held3 (fun W => W.cell? ⟨w1.heap.size, 0, none⟩ = some (.int .i64 u') ∧ W.cell? ⟨w1.heap.size, 1, none⟩ = some (.int .i64 v') ∧ W.cell? ⟨w1.heap.size, 2, none⟩ = some (.int .i64 r') ∧ W.cell? ⟨w6.heap.size, 0, none⟩ = some (.int .i64 U0) ∧ W.cell? ⟨w6.heap.size, 1, none⟩ = some (.int .i64 V0) ∧ W.cell? ⟨w6.heap.size, 2, none⟩ = some (.int .i64 S0))
              (first | exact ⟨ge0, ge1, ge2, gp0, gp1, gp2⟩ | exact ⟨fe0, fe1, fe2, fp0, fp1, fp2⟩ | exact ⟨de0, de1, de2, dp0, dp1, dp2⟩ | exact ⟨o3, o4, o5, p3, p4, p5⟩)
              (first
              | (go_at_call 98; refine (HELJ.out _).mono ?_; rintro e w10 ⟨rfl, hb10⟩; have D10 := Lib.hid (D9.out.trans (hb10.mono D9.out.size)); obtain ⟨ge0, ge1, ge2, _, _, _⟩ := trip_cell (keepH D10.out (Array.getElem?_eq_some_iff.1 HOI.out).1 HOI.out); obtain ⟨gp0, gp1, gp2, _, _, _⟩ := trip_cell (keepH D10.out (Array.getElem?_eq_some_iff.1 HPI.out).1 HPI.out))
              | (go_at_call 99; refine (HADJ.out _).mono ?_; rintro e w9 ⟨rfl, hb9⟩; have D9 := Lib.hid (D8.out.trans (hb9.mono D8.out.size)); obtain ⟨fe0, fe1, fe2, _, _, _⟩ := trip_cell (keepH D9.out (Array.getElem?_eq_some_iff.1 HOI.out).1 HOI.out); obtain ⟨fp0, fp1, fp2, _, _, _⟩ := trip_cell (keepH D9.out (Array.getElem?_eq_some_iff.1 HPI.out).1 HPI.out))
              | (go_at_call 97; refine (HPJ.out _).mono ?_; rintro e w8 ⟨rfl, hb8⟩; have D8 := Lib.hid (WD.out.trans (hb8.mono WD.out.size)); obtain ⟨de0, de1, de2, _, _, _⟩ := trip_cell (keepH D8.out (Array.getElem?_eq_some_iff.1 HOI.out).1 HOI.out); obtain ⟨dp0, dp1, dp2, _, _, _⟩ := trip_cell (keepH D8.out (Array.getElem?_eq_some_iff.1 HPI.out).1 HPI.out)))
            have hrd := owns_below HRI.out D10.out
            have hfr := hrd.frozenAt z
            have hcell := (hrd.cellAt z (by omega)).trans (zrowV_at F k3 z hzn)
            have hst := (hrd.stored z (.int .i64 (F z + x * y))).1
            rw [zrowV_set F k3 z hzn, HX1.out] at hst
            rw [HFZ.out] at hcell hst
            have HST := Lib.hid hst
            have HGS := Lib.hid (grownG_set (grownG_trans HGI.out (below_grown D10.out (some g5))) z (.int .i64 (fz + x * y)))
            clear hst hrd
            go_wp2
            go_roundw
            case rel => exact ⟨j + 1, by omega, by go_num, by first | exact HST.out | simpa using HST.out, HGS.out⟩
            case measure => simp [intOf]; omega
          · obtain rfl : j = k3 := by omega
            clear hgi
            go_wp2
            go_roundw
            case rel => exact ⟨k + 1, by omega, by go_num, by rw [← HNXT.out]; exact HRI.out, grownG_trans HG7.out HGI.out⟩
            case measure => simp [intOf]; omega
      · obtain rfl : k = k3 := by omega
        clear hr hgr
        go_wp2
        go_ret
        exact ⟨_, rfl, HR.out, HB.out.trans ((T5.out.grown HGR.out T5.out.size (fun q hq => by cases hq; simp only [World.size_alloc]; exact HG5.out)).mono (by simp))⟩
end Go.Proofs.YthlpjiibjlaebaaDoor
