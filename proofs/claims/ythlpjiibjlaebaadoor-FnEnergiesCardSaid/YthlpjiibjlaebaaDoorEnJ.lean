/- The program's own popular sums: the elements whose counts are large enough. -/
import Derived.Test.YthlpjiibjlaebaaDoorEnI
import Derived.Test.YthlpjiibjlaebaaDoorMGAH
import Derived.Deep.RegionHeld3
import Derived.Deep.DeepCutAuto
namespace Go.Proofs.YthlpjiibjlaebaaDoor
open Go.RowKit
set_option maxRecDepth 1000000
set_option maxHeartbeats 2000000 in
theorem iWhereP {l : List Int} (hg : grpB l = true) (w : World) (bs bo : Nat) (Pk : Nat → Bool) (S : Nat → Nat) (hS0 : S 0 = 0) (hSy : ∀ k, Pk k = true → S (k + 1) = S k ||| 2 ^ k) (hSn : ∀ k, Pk k = false → S (k + 1) = S k) (hS24 : ∀ k, k ≤ 24 → S k < 16777216)
    (hK : ∀ W, Below w.heap.size w W → ∀ k : Nat, (k : Int) < prodI l → Calls Tryd.prog 88 #[.int .i64 k, .pointer (some ⟨bs, 0, none⟩), .pointer (some ⟨bo, 0, none⟩)] W fun e w' => e = .returned (.bool (Pk k)) ∧ Below W.heap.size W w') :
    Calls Tryd.prog 87 #[tV (l.getD 0 1) (l.getD 1 1) (l.getD 2 1), .func (.func 88) #[] #[.pointer (some ⟨bs, 0, none⟩), .pointer (some ⟨bo, 0, none⟩)]] w fun e w' => e = .returned (.int .u64 (S (prodI l).toNat : Nat)) ∧ Below w.heap.size w w' := by
  have hP := (ords_grp hg).prod
  obtain ⟨P, hPe⟩ : ∃ P : Nat, prodI l = (P : Int) := ⟨(prodI l).toNat, by omega⟩
  have HK := Lib.hid hK
  have HPR := Lib.hid (fun (W : World) => iProduct W _ _ _ (tri_grp hg))
  rw [← prod_pad (grpB_true hg).1, hPe] at HPR
  rw [hPe] at hP HK
  rw [show (prodI l).toNat = P by omega]
  have hP24 : P ≤ 24 := by omega
  have HS0 := Lib.hid hS0
  have HSY := Lib.hid hSy
  have HSN := Lib.hid hSn
  have HSB := Lib.hid hS24
  obtain ⟨p, EP⟩ : ∃ p, Hid (l.getD 0 1 = p) := ⟨_, Lib.hid rfl⟩
  obtain ⟨q, EQ⟩ : ∃ q, Hid (l.getD 1 1 = q) := ⟨_, Lib.hid rfl⟩
  obtain ⟨r, ER⟩ : ∃ r, Hid (l.getD 2 1 = r) := ⟨_, Lib.hid rfl⟩
  rw [EP.out, EQ.out, ER.out] at HPR
  rw [EP.out, EQ.out, ER.out]
  have HAL := Lib.hid (heap_alloc_new w (.cells #[.int .i64 p, .int .i64 q, .int .i64 r] 51))
  have HB := Lib.hid (Joins.below_alloc1 w (.cells #[.int .i64 p, .int .i64 q, .int .i64 r] 51))
  have T0 := Lib.hid (Below.refl (w.alloc (.cells #[.int .i64 p, .int .i64 q, .int .i64 r] 51)).heap.size (w.alloc (.cells #[.int .i64 p, .int .i64 q, .int .i64 r] 51)))
  clear hP hK hS0 hSy hSn hS24 hPe hg
  go_enter Tryd.func87, Tryd.ntmps87
  go_wp2_with (go_at_call 78; refine (HPR.out _).mono ?_; rintro e w1 ⟨rfl, hb1⟩; have T1 := Lib.hid (T0.out.trans hb1); clear hb1)
  go_loopw [5, 9] (fun o i wr => ∃ k : Nat, k ≤ P ∧ i = .int .i64 k ∧ o = .int .u64 (S k : Nat) ∧ Below (w.alloc (.cells #[.int .i64 p, .int .i64 q, .int .i64 r] 51)).heap.size (w.alloc (.cells #[.int .i64 p, .int .i64 q, .int .i64 r] 51)) wr) (fun _ i _ => P - (intOf i).toNat)
  case atStart => exact ⟨0, Nat.zero_le _, rfl, by rw [HS0.out]; rfl, T1.out⟩
  case round =>
    obtain ⟨k, hk, rfl, rfl, hbel⟩ := hrel
    have HBL := Lib.hid hbel
    by_cases hlt : k < P
    · have hk23 : k ≤ 23 := by omega
      have hkP : (k : Int) < (P : Int) := by omega
      have HY := Lib.hid (HSY.out k)
      have HZ := Lib.hid (HSN.out k)
      have HS24 : Hid (S k < 2 ^ 24) := Lib.hid (HSB.out k (by omega))
      have HKK := Lib.hid (HK.out wr (HB.out.trans (hbel.mono (by simp))) k hkP)
      obtain ⟨s, hSS⟩ : ∃ s, S k = s := ⟨_, rfl⟩
      rw [hSS] at HY HZ HS24
      rw [hSS]
      clear hSS hbel
      cases hv : Pk k with
      | true =>
        have E1 := Lib.hid (HY.out hv)
        rw [hv] at HKK
        clear HY HZ hv
        go_wp2_with (first
          | (go_at_call 108; refine (iWith _ s k HS24.out hk23).mono ?_; rintro e w6 ⟨rfl, rfl⟩)
          | (go_at_call 88; refine (HKK.out).mono ?_; rintro e w5 ⟨rfl, hb5⟩))
        go_roundw
        case rel => exact ⟨k + 1, by omega, by go_num, by rw [E1.out], HBL.out.trans (hb5.mono HBL.out.size)⟩
        case measure => simp [intOf]; omega
      | false =>
        have E1 := Lib.hid (HZ.out hv)
        rw [hv] at HKK
        clear HY HZ hv
        go_wp2_with (go_at_call 88; refine (HKK.out).mono ?_; rintro e w5 ⟨rfl, hb5⟩)
        go_roundw
        case rel => exact ⟨k + 1, by omega, by go_num, by rw [E1.out], HBL.out.trans (hb5.mono HBL.out.size)⟩
        case measure => simp [intOf]; omega
    · obtain rfl : k = P := by omega
      clear hbel
      go_wp2
      go_ret
      exact ⟨rfl, HB.out.trans (HBL.out.mono (by simp))⟩
theorem one_cellP {w : World} {B : Nat} {x : Value} {T : TypeId} (h : w.heap[B]? = some (.cells #[x] T (0, 0))) : w.cell? ⟨B, 0, none⟩ = some x := by simp [World.cell?, h]
set_option maxHeartbeats 2000000 in
theorem iPop1 (W : World) (a : Option Addr) (M : List Int) (N cap : Nat) (u : Int) (k bt bu : Nat) (hN : M.length = N) (hk : k < N) (hi : Ints W a M) (ht : W.heap[bt]? = some (.cells #[.slice a N cap] 24 (0, 0))) (hu : W.heap[bu]? = some (.cells #[.int .i64 u] 3 (0, 0))) :
    Calls Tryd.prog 88 #[.int .i64 k, .pointer (some ⟨bt, 0, none⟩), .pointer (some ⟨bu, 0, none⟩)] W fun e w' => e = .returned (.bool (decide (u ≤ M.getD k 0))) ∧ Below W.heap.size W w' := by
  have hkl : k < M.length := by omega
  rcases hi with h0 | ⟨b, off, h1, hbl, hc⟩
  · rw [h0] at hkl; simp at hkl
  · subst h1
    have r1 := hc k hkl
    have c1 := one_cellP ht
    have c2 := one_cellP hu
    obtain ⟨x, hx⟩ : ∃ x, M.getD k 0 = x := ⟨_, rfl⟩
    rw [hx] at r1 ⊢
    have hb1 : bt < W.heap.size := (Array.getElem?_eq_some_iff.1 ht).1
    have hb2 : bu < W.heap.size := (Array.getElem?_eq_some_iff.1 hu).1
    have HD := Lib.hid (Below.refl W.heap.size W).drew
    have d1 := keepC HD.out hbl r1
    have d2 := keepC HD.out hb1 c1
    have d3 := keepC HD.out hb2 c2
    have hki : (k : Int) < (N : Int) := by omega
    clear hx ht hu hc hkl hb1 hb2 hbl
    go_enter Tryd.func88, Tryd.ntmps88
    go_wp2
    go_region_with (fail)
    all_goals
      go_wp2
      go_ret
      exact ⟨rfl, HD.out⟩
set_option maxHeartbeats 4000000 in
theorem iPop (w : World) (a : Option Addr) (l : List Int) (n cap : Nat) (s t u : Int) (hn : n = l.length) (hm : n ≤ 9223372036854775807) (hi : Ints w a l) (B : Nat) (hB0 : B ≤ w.heap.size) (ht : TabZ B w) :
    Calls Tryd.prog 35 #[.agg #[.slice a n cap], .int .i64 s, .int .i64 t, .int .i64 u] w fun e w' => e = .returned (.int .i64 (popE l s t u)) ∧ Below w.heap.size w w' := by
  have HTZ := Lib.hid ht
  clear ht
  have hmf : ∀ (fn : Fn) (first cap : Array Value) (w : World), (Instr.makeFunc fn first cap).run Tryd.prog w = .ok (.func fn first cap) w := fun _ _ _ _ => rfl
  have HB := Lib.hid (Joins.below_alloc2 w (.cells #[.slice a n cap] 26) (.cells #[.int .i64 u] 3))
  have HI := Lib.hid (hi.below rfl HB.out)
  have HN := Lib.hid hn
  have C1 := keepC (Joins.below_alloc1 (w.alloc (.cells #[.slice a n cap] 26)) (.cells #[.int .i64 u] 3)) (by simp) (newC w (.slice a n cap) 26 (n := w.heap.size) rfl)
  have R2 : Hid (((w.alloc (.cells #[.slice a n cap] 26)).alloc (.cells #[.int .i64 u] 3)).heap[w.heap.size + 1]? = some (.cells #[.int .i64 u] 3 (0, 0))) := Lib.hid (by simpa using heap_alloc_new (w.alloc (.cells #[.slice a n cap] 26)) (.cells #[.int .i64 u] 3))
  have C2 := one_cellP R2.out
  have hsz : ((w.alloc (.cells #[.slice a n cap] 26)).alloc (.cells #[.int .i64 u] 3)).heap.size = w.heap.size + 2 := by simp
  have T0 := Lib.hid (Below.refl ((w.alloc (.cells #[.slice a n cap] 26)).alloc (.cells #[.int .i64 u] 3)).heap.size ((w.alloc (.cells #[.slice a n cap] 26)).alloc (.cells #[.int .i64 u] 3)))
  clear hi hn
  cases hs : two l s t with
  | false =>
    have HS := Lib.hid hs
    rw [show popE l s t u = -1 by unfold popE popB; rw [if_neg (by simp [hs])]]
    clear hs
    go_enter Tryd.func35, Tryd.ntmps35
    go_wp2_with (go_at_call 60; refine (iSetsIn_no _ _ _ _ _ _ _ HN.out hm (HI.out.below rfl T0.out) HS.out).mono ?_; rintro e w1 ⟨p, q, r, x, y, rfl, hb1⟩; have c2 := keepC (hb1.trans ((Joins.below_alloc1 w1 (.cells #[.int .i64 p, .int .i64 q, .int .i64 r] 51)).mono hb1.size)) (by simp) C2)
    go_ret
    exact ⟨rfl, HB.out.trans ((hb1.alloc hb1.size _).mono (by simp; omega))⟩
  | true =>
    have HS := Lib.hid hs
    obtain ⟨hg, s, t, rfl, rfl, hsn, htn⟩ := two_true hs
    have hP := (ords_grp hg).prod
    cases hu : (decide (1 ≤ u) && decide (u ≤ 24)) with
    | false =>
      rw [show popE l s t u = -1 by unfold popE popB; rw [if_neg (by simp [hu])]]
      obtain ⟨p, EP⟩ : ∃ p, Hid (l.getD 0 1 = p) := ⟨_, Lib.hid rfl⟩
      obtain ⟨q, EQ⟩ : ∃ q, Hid (l.getD 1 1 = q) := ⟨_, Lib.hid rfl⟩
      obtain ⟨r, ER⟩ : ∃ r, Hid (l.getD 2 1 = r) := ⟨_, Lib.hid rfl⟩
      clear hs hg hsn htn hP
      by_cases h1 : u < 1
      · clear hu
        go_enter Tryd.func35, Tryd.ntmps35
        go_wp2_with (go_at_call 60; refine (iSetsIn_yes _ _ _ _ _ _ _ HN.out hm (HI.out.below rfl T0.out) HS.out).mono ?_; rw [EP.out, EQ.out, ER.out]; rintro e w1 ⟨rfl, hb1⟩; have U1 := Lib.hid hb1; have T1 := Lib.hid (HB.out.trans (hb1.mono (by simp; omega))); have T2 := Lib.hid (Joins.below_alloc1 w1 (.cells #[.int .i64 p, .int .i64 q, .int .i64 r] 51)); have HAL := Lib.hid (heap_alloc_new w1 (.cells #[.int .i64 p, .int .i64 q, .int .i64 r] 51)); obtain ⟨y0, y1, y2, _, _, _⟩ := trip_cell HAL.out; have c2 := keepC (U1.out.trans (T2.out.mono U1.out.size)) (by simp) C2; clear hb1)
        go_ret
        exact ⟨rfl, T1.out.trans (T2.out.mono T1.out.size)⟩
      · have h2 : u > 24 := by
          rcases Int.lt_or_le 24 u with h | h
          · exact h
          · exfalso
            have h3 : 1 ≤ u := by omega
            simp [h, h3] at hu
        clear hu
        go_enter Tryd.func35, Tryd.ntmps35
        go_wp2_with (go_at_call 60; refine (iSetsIn_yes _ _ _ _ _ _ _ HN.out hm (HI.out.below rfl T0.out) HS.out).mono ?_; rw [EP.out, EQ.out, ER.out]; rintro e w1 ⟨rfl, hb1⟩; have U1 := Lib.hid hb1; have T1 := Lib.hid (HB.out.trans (hb1.mono (by simp; omega))); have T2 := Lib.hid (Joins.below_alloc1 w1 (.cells #[.int .i64 p, .int .i64 q, .int .i64 r] 51)); have HAL := Lib.hid (heap_alloc_new w1 (.cells #[.int .i64 p, .int .i64 q, .int .i64 r] 51)); obtain ⟨y0, y1, y2, _, _, _⟩ := trip_cell HAL.out; have c2 := keepC (U1.out.trans (T2.out.mono U1.out.size)) (by simp) C2; clear hb1)
        go_ret
        exact ⟨rfl, T1.out.trans (T2.out.mono T1.out.size)⟩
    | true =>
      have hu1 : 1 ≤ u ∧ u ≤ 24 := by
        rw [Bool.and_eq_true] at hu
        exact ⟨of_decide_eq_true hu.1, of_decide_eq_true hu.2⟩
      obtain ⟨N, HNN⟩ : ∃ N : Nat, Hid ((prodI l).toNat = N) := ⟨_, Lib.hid rfl⟩
      have hN24 : N ≤ 24 := by have := HNN.out; omega
      have HRES : Hid (popE l (s : Int) (t : Int) u = ((selK (fun i => decide (u ≤ (tabN l s t).getD i 0)) N : Nat) : Int)) := Lib.hid (by unfold popE popB; rw [if_pos (by rw [hs, hu]; rfl), HNN.out]; rfl)
      rw [HRES.out]
      have HST := Lib.hid (fun (W : World) h1 h2 => iSumT hg W s t hsn htn B h1 h2)
      have HML : Hid ((tabN l s t).length = N) := Lib.hid (by rw [tabN_len, HNN.out])
      obtain ⟨M, HM⟩ : ∃ M, Hid (tabN l s t = M) := ⟨_, Lib.hid rfl⟩
      rw [HM.out] at HST HML
      rw [HM.out]
      have HWH := Lib.hid (fun (W : World) (a3 : Option Addr) (c3 bt bu : Nat) (hI : Ints W a3 M) (h1 : W.heap[bt]? = some (.cells #[.slice a3 N c3] 24 (0, 0))) (h2 : W.heap[bu]? = some (.cells #[.int .i64 u] 3 (0, 0))) =>
        iWhereP hg W bt bu (fun k => decide (u ≤ M.getD k 0)) (selK (fun k => decide (u ≤ M.getD k 0))) rfl (fun k h => selK_yes h) (fun k h => selK_no h) (fun k hk => selK_lt24 _ hk)
          (fun W' hW k hk => iPop1 W' a3 M N c3 u k bt bu HML.out (by have := HNN.out; omega) (hI.below rfl hW) (keepH hW (Array.getElem?_eq_some_iff.1 h1).1 h1) (keepH hW (Array.getElem?_eq_some_iff.1 h2).1 h2)))
      rw [HNN.out] at HWH
      have hS24 : selK (fun k => decide (u ≤ M.getD k 0)) N < 16777216 := selK_lt24 _ hN24
      obtain ⟨S, HSS⟩ : ∃ S, Hid (selK (fun k => decide (u ≤ M.getD k 0)) N = S) := ⟨_, Lib.hid rfl⟩
      rw [HSS.out] at HWH hS24
      rw [HSS.out]
      obtain ⟨p, EP⟩ : ∃ p, Hid (l.getD 0 1 = p) := ⟨_, Lib.hid rfl⟩
      obtain ⟨q, EQ⟩ : ∃ q, Hid (l.getD 1 1 = q) := ⟨_, Lib.hid rfl⟩
      obtain ⟨r, ER⟩ : ∃ r, Hid (l.getD 2 1 = r) := ⟨_, Lib.hid rfl⟩
      rw [EP.out, EQ.out, ER.out] at HST HWH
      obtain ⟨hu1, hu2⟩ := hu1
      have g1 : ¬ u < 1 := by omega
      have g2 : ¬ u > 24 := by omega
      clear hs hg hsn htn hP hu
      go_enter Tryd.func35, Tryd.ntmps35
      go_wp2_with (first
        | (go_at_call 87; refine (HWH.out _ _ _ _ _ I5.out RT.out RU.out).mono ?_; rintro e w6 ⟨rfl, hb6⟩; have T6 := Lib.hid (T5.out.trans (hb6.mono T5.out.size)))
        | (go_at_call 84; refine (HST.out _ (Nat.le_trans (Nat.le_trans hB0 T1.out.size) T2.out.size) (HTZ.out.on ((T1.out.trans (T2.out.mono T1.out.size)).mono hB0))).mono ?_; rintro e w3 ⟨v3, rfl, ho3, hb3⟩; rw [HML.out] at ho3; obtain ⟨a3, cap3, rfl⟩ := own_sl ho3; have B4 := Lib.hid (hb3.alloc hb3.size (.cells #[.slice a3 N cap3] 24)); have I5 := Lib.hid (ints_alloc (own_in ho3) (.cells #[.slice a3 N cap3] 24)); have T5 := Lib.hid ((T1.out.trans (T2.out.mono T1.out.size)).trans (B4.out.mono (Nat.le_trans T1.out.size T2.out.size))); have RT := Lib.hid (heap_alloc_new w3 (.cells #[.slice a3 N cap3] 24)); have RU := Lib.hid (keepH ((U1.out.trans (T2.out.mono U1.out.size)).trans (B4.out.mono (Nat.le_trans U1.out.size T2.out.size))) (by simp) R2.out); obtain ⟨z0, z1, z2, _, _, _⟩ := trip_cell (keepH B4.out (by simp) HAL.out); clear ho3 hb3)
        | (go_at_call 60; refine (iSetsIn_yes _ _ _ _ _ _ _ HN.out hm (HI.out.below rfl T0.out) HS.out).mono ?_; rw [EP.out, EQ.out, ER.out]; rintro e w1 ⟨rfl, hb1⟩; have U1 := Lib.hid hb1; have T1 := Lib.hid (HB.out.trans (hb1.mono (by simp; omega))); have T2 := Lib.hid (Joins.below_alloc1 w1 (.cells #[.int .i64 p, .int .i64 q, .int .i64 r] 51)); have HAL := Lib.hid (heap_alloc_new w1 (.cells #[.int .i64 p, .int .i64 q, .int .i64 r] 51)); obtain ⟨y0, y1, y2, _, _, _⟩ := trip_cell HAL.out; have c2 := keepC (U1.out.trans (T2.out.mono U1.out.size)) (by simp) C2; clear hb1))
      go_ret
      exact ⟨rfl, T6.out⟩
end Go.Proofs.YthlpjiibjlaebaaDoor
