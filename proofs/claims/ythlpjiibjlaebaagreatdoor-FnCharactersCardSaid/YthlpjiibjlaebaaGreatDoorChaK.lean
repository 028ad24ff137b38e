/- The program's own annihilators, and its exported functions on characters. -/
import Derived.Test.YthlpjiibjlaebaaGreatDoorChaJ
import Derived.Test.YthlpjiibjlaebaaGreatDoorMGAK
import Derived.Test.YthlpjiibjlaebaaGreatDoorShiftN
import Derived.Laws.EntriesVeiled
namespace Go.Proofs.YthlpjiibjlaebaaGreatDoor
open Go.RowKit
set_option maxRecDepth 1000000
set_option maxHeartbeats 2000000 in
theorem iWhereA {l : List Int} (hg : grpB l = true) (w : World) (bs bo : Nat) (Pk : Nat → Bool) (S : Nat → Nat) (hS0 : S 0 = 0) (hSy : ∀ k, Pk k = true → S (k + 1) = S k ||| 2 ^ k) (hSn : ∀ k, Pk k = false → S (k + 1) = S k) (hS24 : ∀ k, k ≤ 24 → S k < 16777216)
    (hK : ∀ W, Below w.heap.size w W → ∀ k : Nat, (k : Int) < prodI l → Calls Tryz.prog 74 #[.int .i64 k, .pointer (some ⟨bs, 0, none⟩), .pointer (some ⟨bo, 0, none⟩)] W fun e w' => e = .returned (.bool (Pk k)) ∧ Below W.heap.size W w') :
    Calls Tryz.prog 73 #[tV (l.getD 0 1) (l.getD 1 1) (l.getD 2 1), .func (.func 74) #[] #[.pointer (some ⟨bs, 0, none⟩), .pointer (some ⟨bo, 0, none⟩)]] w fun e w' => e = .returned (.int .u64 (S (prodI l).toNat : Nat)) ∧ Below w.heap.size w w' := by
  have hP := (ords_grp hg).prod
  obtain ⟨P, hPe⟩ : ∃ P : Nat, prodI l = (P : Int) := ⟨(prodI l).toNat, by omega⟩
  have HK := Lib.hid hK
  have HPR := Lib.hid (fun (W : World) => iProduct W _ _ _ (tri_grp hg))
  rw [← prod_pad (grpB_true hg).1, hPe] at HPR
  rw [hPe] at hP HK
  rw [show (prodI l).toNat = P by omega]
  have hP24 : P ≤ 24 := by omega
  have HS0 := Lib.hid hS0
  have HSY := Lib.hid hSy
  have HSN := Lib.hid hSn
  have HSB := Lib.hid hS24
  obtain ⟨p, EP⟩ : ∃ p, Hid (l.getD 0 1 = p) := ⟨_, Lib.hid rfl⟩
  obtain ⟨q, EQ⟩ : ∃ q, Hid (l.getD 1 1 = q) := ⟨_, Lib.hid rfl⟩
  obtain ⟨r, ER⟩ : ∃ r, Hid (l.getD 2 1 = r) := ⟨_, Lib.hid rfl⟩
  rw [EP.out, EQ.out, ER.out] at HPR
  rw [EP.out, EQ.out, ER.out]
  have HAL := Lib.hid (heap_alloc_new w (.cells #[.int .i64 p, .int .i64 q, .int .i64 r] 46))
  have HB := Lib.hid (Joins.below_alloc1 w (.cells #[.int .i64 p, .int .i64 q, .int .i64 r] 46))
  have T0 := Lib.hid (Below.refl (w.alloc (.cells #[.int .i64 p, .int .i64 q, .int .i64 r] 46)).heap.size (w.alloc (.cells #[.int .i64 p, .int .i64 q, .int .i64 r] 46)))
  clear hP hK hS0 hSy hSn hS24 hPe hg
  go_enter Tryz.func73, Tryz.ntmps73
  go_wp2_with (go_at_call 39; refine (HPR.out _).mono ?_; rintro e w1 ⟨rfl, hb1⟩; have T1 := Lib.hid (T0.out.trans hb1); clear hb1)
  go_loopw [5, 9] (fun o i wr => ∃ k : Nat, k ≤ P ∧ i = .int .i64 k ∧ o = .int .u64 (S k : Nat) ∧ Below (w.alloc (.cells #[.int .i64 p, .int .i64 q, .int .i64 r] 46)).heap.size (w.alloc (.cells #[.int .i64 p, .int .i64 q, .int .i64 r] 46)) wr) (fun _ i _ => P - (intOf i).toNat)
  case atStart => exact ⟨0, Nat.zero_le _, rfl, by rw [HS0.out]; rfl, T1.out⟩
  case round =>
    obtain ⟨k, hk, rfl, rfl, hbel⟩ := hrel
    have HBL := Lib.hid hbel
    by_cases hlt : k < P
    · have hk23 : k ≤ 23 := by omega
      have hkP : (k : Int) < (P : Int) := by omega
      have HY := Lib.hid (HSY.out k)
      have HZ := Lib.hid (HSN.out k)
      have HS24 : Hid (S k < 2 ^ 24) := Lib.hid (HSB.out k (by omega))
      have HKK := Lib.hid (HK.out wr (HB.out.trans (hbel.mono (by simp))) k hkP)
      obtain ⟨s, hSS⟩ : ∃ s, S k = s := ⟨_, rfl⟩
      rw [hSS] at HY HZ HS24
      rw [hSS]
      clear hSS hbel
      cases hv : Pk k with
      | true =>
        have E1 := Lib.hid (HY.out hv)
        rw [hv] at HKK
        clear HY HZ hv
        go_wp2_with (first
          | (go_at_call 92; refine (iWith _ s k HS24.out hk23).mono ?_; rintro e w6 ⟨rfl, rfl⟩)
          | (go_at_call 74; refine (HKK.out).mono ?_; rintro e w5 ⟨rfl, hb5⟩))
        go_roundw
        case rel => exact ⟨k + 1, by omega, by go_num, by rw [E1.out], HBL.out.trans (hb5.mono HBL.out.size)⟩
        case measure => simp [intOf]; omega
      | false =>
        have E1 := Lib.hid (HZ.out hv)
        rw [hv] at HKK
        clear HY HZ hv
        go_wp2_with (go_at_call 74; refine (HKK.out).mono ?_; rintro e w5 ⟨rfl, hb5⟩)
        go_roundw
        case rel => exact ⟨k + 1, by omega, by go_num, by rw [E1.out], HBL.out.trans (hb5.mono HBL.out.size)⟩
        case measure => simp [intOf]; omega
    · obtain rfl : k = P := by omega
      clear hbel
      go_wp2
      go_ret
      exact ⟨rfl, HB.out.trans (HBL.out.mono (by simp))⟩
theorem ker_and {V S : Nat} : S ^^^ (S &&& V) = 0 ↔ V &&& S = S := by
  constructor
  · intro h
    apply Nat.eq_of_testBit_eq
    intro j
    have h1 := congrArg (fun z => z.testBit j) h
    simp only [Nat.testBit_xor, Nat.testBit_and, Nat.zero_testBit] at h1 ⊢
    cases hs : S.testBit j <;> cases hv : V.testBit j <;> simp_all
  · intro h
    apply Nat.eq_of_testBit_eq
    intro j
    have h1 := congrArg (fun z => z.testBit j) h
    simp only [Nat.testBit_xor, Nat.testBit_and, Nat.zero_testBit] at h1 ⊢
    cases hs : S.testBit j <;> cases hv : V.testBit j <;> simp_all
set_option maxHeartbeats 2000000 in
theorem iAnn1 {l : List Int} (hg : grpB l = true) (w : World) (s : Nat) (hs : s < 16777216) (m : Nat) (hm : (m : Int) < prodI l) {bs bo : Nat} (hbo : w.heap[bo]? = some (.cells #[.int .i64 (l.getD 0 1), .int .i64 (l.getD 1 1), .int .i64 (l.getD 2 1)] 46 (0, 0))) (hbs : w.heap[bs]? = some (.cells #[.int .u64 s] 55 (0, 0))) :
    Calls Tryz.prog 74 #[.int .i64 m, .pointer (some ⟨bs, 0, none⟩), .pointer (some ⟨bo, 0, none⟩)] w fun e w' => e = .returned (.bool (decide (kerK l m (prodI l).toNat &&& s = s))) ∧ Below w.heap.size w w' := by
  have hP := (ords_grp hg).prod
  have HC := Lib.hid (fun (W : World) => iChr hg W (m : Int) (by omega) (by omega))
  have HKE := Lib.hid (fun (W : World) (a b c : Nat) (h : ChrAt W l (m : Int) a b c) => iKer hg W m h)
  have hV24 : kerK l m (prodI l).toNat < 16777216 := kerK_lt24 l m (by omega)
  obtain ⟨o0, o1, o2, _, _, _⟩ := trip_cell hbo
  have s0 := one_cell7 hbs
  obtain ⟨E, EE⟩ : ∃ E, Hid (expN l = E) := ⟨_, Lib.hid rfl⟩
  obtain ⟨p, EP⟩ : ∃ p, Hid (l.getD 0 1 = p) := ⟨_, Lib.hid rfl⟩
  obtain ⟨q, EQ⟩ : ∃ q, Hid (l.getD 1 1 = q) := ⟨_, Lib.hid rfl⟩
  obtain ⟨r, ER⟩ : ∃ r, Hid (l.getD 2 1 = r) := ⟨_, Lib.hid rfl⟩
  obtain ⟨V, HV⟩ : ∃ V, Hid (kerK l m (prodI l).toNat = V) := ⟨_, Lib.hid rfl⟩
  rw [EP.out, EQ.out, ER.out] at HC HKE
  rw [EP.out] at o0
  rw [EQ.out] at o1
  rw [ER.out] at o2
  rw [EE.out] at HC HKE
  rw [HV.out] at HKE hV24
  rw [HV.out]
  have hbo2 : bo < w.heap.size := (Array.getElem?_eq_some_iff.1 hbo).1
  have hbs2 : bs < w.heap.size := (Array.getElem?_eq_some_iff.1 hbs).1
  have HD : Hid ((bits BinOp.andNot IntKind.u64 (s : Int) (V : Int) == 0) = decide (V &&& s = s)) := Lib.hid (by
    rw [bits_andNot s V (by omega) (by omega)]
    have h := ker_and (V := V) (S := s)
    by_cases h2 : V &&& s = s
    · rw [h.2 h2, decide_eq_true h2]
      rfl
    · rw [decide_eq_false h2]
      have h3 : ¬ s ^^^ (s &&& V) = 0 := fun x => h2 (h.1 x)
      simp only [beq_eq_false_iff_ne, ne_eq]
      omega)
  clear hP hm hg hbo hbs
  go_enter Tryz.func74, Tryz.ntmps74
  have T0 := Lib.hid (Below.refl w.heap.size w).drew
  go_wp2
  go_region_held3 (fun W => W.cell? ⟨bo, 0, none⟩ = some (.int .i64 p) ∧ W.cell? ⟨bo, 1, none⟩ = some (.int .i64 q) ∧ W.cell? ⟨bo, 2, none⟩ = some (.int .i64 r) ∧ W.cell? ⟨bs, 0, none⟩ = some (.int .u64 (s : Nat))) (first | exact ⟨e0, e1, e2, e3⟩ | exact ⟨d0, d1, d2, d3⟩ | exact ⟨o0, o1, o2, s0⟩)
    (first
     | (go_at_call 59; refine (HKE.out _ _ _ _ HCH.out).mono ?_; rintro e w2 ⟨rfl, hb2⟩; have T2 := Lib.hid (T1.out.trans (hb2.mono T1.out.size)); have e0 := keepC T2.out hbo2 o0; have e1 := keepC T2.out hbo2 o1; have e2 := keepC T2.out hbo2 o2; have e3 := keepC T2.out hbs2 s0)
     | (go_at_call 69; refine (HC.out _).mono ?_; rintro e w1 ⟨a1, a2, a3, rfl, hc1, _, hb1⟩; have HCH := Lib.hid hc1; have T1 := Lib.hid (T0.out.trans (hb1.mono T0.out.size)); have d0 := keepC T1.out hbo2 o0; have d1 := keepC T1.out hbo2 o1; have d2 := keepC T1.out hbo2 o2; have d3 := keepC T1.out hbs2 s0; clear hc1))
  go_wp2
  go_ret
  exact ⟨by rw [← HD.out]; rfl, T2.out⟩
set_option maxHeartbeats 2000000 in
theorem iAnn {l : List Int} (hg : grpB l = true) (w : World) (s : Nat) (hsn : s < 2 ^ (prodI l).toNat) (hs : s < 16777216) :
    Calls Tryz.prog 47 #[tV (l.getD 0 1) (l.getD 1 1) (l.getD 2 1), .int .u64 s] w fun e w' => e = .returned (.int .u64 (annM l s (prodI l).toNat : Nat)) ∧ Below w.heap.size w w' := by
  have hmf : ∀ (fn : Fn) (first cap : Array Value) (w : World), (Instr.makeFunc fn first cap).run Tryz.prog w = .ok (.func fn first cap) w := fun _ _ _ _ => rfl
  have HB := Lib.hid (Joins.below_alloc2 w (.cells #[.int .i64 (l.getD 0 1), .int .i64 (l.getD 1 1), .int .i64 (l.getD 2 1)] 46) (.cells #[.int .u64 s] 55))
  have R1 := Lib.hid (show ((w.alloc (.cells #[.int .i64 (l.getD 0 1), .int .i64 (l.getD 1 1), .int .i64 (l.getD 2 1)] 46)).alloc (.cells #[.int .u64 s] 55)).heap[w.heap.size + 1]? = some (.cells #[.int .u64 s] 55 (0, 0)) by simpa using heap_alloc_new (w.alloc (.cells #[.int .i64 (l.getD 0 1), .int .i64 (l.getD 1 1), .int .i64 (l.getD 2 1)] 46)) (.cells #[.int .u64 s] 55))
  have R0 := Lib.hid (keepH (Joins.below_alloc1 _ (.cells #[.int .u64 s] 55)) (by simp) (heap_alloc_new w (.cells #[.int .i64 (l.getD 0 1), .int .i64 (l.getD 1 1), .int .i64 (l.getD 2 1)] 46)))
  have HW := Lib.hid (iWhereA hg ((w.alloc (.cells #[.int .i64 (l.getD 0 1), .int .i64 (l.getD 1 1), .int .i64 (l.getD 2 1)] 46)).alloc (.cells #[.int .u64 s] 55)) (w.heap.size + 1) w.heap.size (fun m => decide (kerK l m (prodI l).toNat &&& s = s)) (annM l s) rfl (fun x h => annM_yes hg hsn (of_decide_eq_true h)) (fun x h => annM_no hg hsn (of_decide_eq_false h)) (fun m hm => annM_lt24 l s hm)
    (fun W hW x hx => iAnn1 hg W s hs x hx (keepH hW (by simp only [World.size_alloc]; omega) R0.out) (keepH hW (by simp only [World.size_alloc]; omega) R1.out)))
  obtain ⟨p, EP⟩ : ∃ p, Hid (l.getD 0 1 = p) := ⟨_, Lib.hid rfl⟩
  obtain ⟨q, EQ⟩ : ∃ q, Hid (l.getD 1 1 = q) := ⟨_, Lib.hid rfl⟩
  obtain ⟨r, ER⟩ : ∃ r, Hid (l.getD 2 1 = r) := ⟨_, Lib.hid rfl⟩
  rw [EP.out, EQ.out, ER.out] at HW HB R0
  rw [EP.out, EQ.out, ER.out]
  obtain ⟨c0, c1, c2, _, _, _⟩ := trip_cell R0.out
  clear hsn hs hg R1
  go_enter Tryz.func47, Tryz.ntmps47
  go_wp2_with (go_at_call 73; refine (HW.out).mono ?_; rintro e w2 ⟨rfl, hb2⟩)
  go_ret
  exact ⟨rfl, HB.out.trans (hb2.mono (by simp <;> omega))⟩
set_option maxHeartbeats 2000000 in
theorem iAO (w : World) (a : Option Addr) (l : List Int) (n cap : Nat) (s : Int) (hn : n = l.length) (hm : n ≤ 9223372036854775807) (hi : Ints w a l) :
    Calls Tryz.prog 13 #[.agg #[.slice a n cap], .int .i64 s] w fun e w' => e = .returned (.int .i64 (annE l s)) ∧ Below w.heap.size w w' := by
  have HI := Lib.hid (ints_alloc hi (.cells #[.slice a n cap] 26))
  have HN := Lib.hid hn
  have C1 := newC w (.slice a n cap) 26 (n := w.heap.size) rfl
  have HB := Lib.hid (Joins.below_alloc1 w (.cells #[.slice a n cap] 26))
  have T0 := Lib.hid (Below.refl (w.alloc (.cells #[.slice a n cap] 26)).heap.size (w.alloc (.cells #[.slice a n cap] 26)))
  clear hi hn
  cases hs : isS l s with
  | false =>
    have HS := Lib.hid hs
    rw [show annE l s = -1 by unfold annE; rw [if_neg (by simp [hs])]]
    clear hs
    go_enter Tryz.func13, Tryz.ntmps13
    go_wp2_with (go_at_call 46; refine (iSetIn_no _ _ _ _ _ _ HN.out hm (HI.out.below rfl T0.out) HS.out).mono ?_; rintro e w1 ⟨rfl, hb1⟩; have TA := Lib.hid ((HB.out.trans (hb1.mono (by simp))).alloc (Nat.le_trans (by simp) hb1.size) (.cells #[.int .i64 0, .int .i64 0, .int .i64 0] 46)); have HAL := Lib.hid (heap_alloc_new w1 (.cells #[.int .i64 0, .int .i64 0, .int .i64 0] 46)); obtain ⟨y0, y1, y2, _, _, _⟩ := trip_cell HAL.out)
    go_ret
    exact ⟨rfl, TA.out⟩
  | true =>
    have HS := Lib.hid hs
    obtain ⟨hg, s, rfl, hsn, hs24⟩ := isS_true hs
    rw [show annE l (s : Int) = ((annM l s (prodI l).toNat : Nat) : Int) by unfold annE; rw [if_pos hs, Int.toNat_natCast]]
    have HST := Lib.hid (fun (W : World) => iAnn hg W s hsn hs24)
    have hP := (ords_grp hg).prod
    have hS24 : annM l s (prodI l).toNat < 16777216 := annM_lt24 l s (by omega)
    obtain ⟨p, EP⟩ : ∃ p, Hid (l.getD 0 1 = p) := ⟨_, Lib.hid rfl⟩
    obtain ⟨q, EQ⟩ : ∃ q, Hid (l.getD 1 1 = q) := ⟨_, Lib.hid rfl⟩
    obtain ⟨r, ER⟩ : ∃ r, Hid (l.getD 2 1 = r) := ⟨_, Lib.hid rfl⟩
    obtain ⟨S, hSS⟩ : ∃ S, annM l s (prodI l).toNat = S := ⟨_, rfl⟩
    rw [hSS] at hS24 HST ⊢
    rw [EP.out, EQ.out, ER.out] at HST
    clear hs hsn hg hSS hP
    go_enter Tryz.func13, Tryz.ntmps13
    go_wp2_with (first
      | (go_at_call 47; refine (HST.out _).mono ?_; rintro e w2 ⟨rfl, hb2⟩; have T2 := Lib.hid (TA.out.trans (hb2.mono TA.out.size)))
      | (go_at_call 46; refine (iSetIn_yes _ _ _ _ _ _ HN.out hm (HI.out.below rfl T0.out) HS.out).mono ?_; rw [EP.out, EQ.out, ER.out]; rintro e w1 ⟨rfl, hb1⟩; have TA := Lib.hid ((HB.out.trans (hb1.mono (by simp))).alloc (Nat.le_trans (by simp) hb1.size) (.cells #[.int .i64 p, .int .i64 q, .int .i64 r] 46)); have HAL := Lib.hid (heap_alloc_new w1 (.cells #[.int .i64 p, .int .i64 q, .int .i64 r] 46)); obtain ⟨y0, y1, y2, _, _, _⟩ := trip_cell HAL.out))
    go_ret
    exact ⟨rfl, T2.out⟩
theorem below_set2 {B b : Nat} {w0 w : World} {x y : Value} (h : Below B w0 w) (hb : B ≤ b) : Below B w0 ((w.setCell ⟨b, 0, none⟩ x).setCell ⟨b, 1, none⟩ y) := Below.setCell (p := ⟨b, 1, none⟩) (Below.setCell (p := ⟨b, 0, none⟩) h hb _) hb _
set_option maxHeartbeats 2000000 in
theorem iCIn_no (w : World) (a : Option Addr) (l : List Int) (n cap : Nat) (k : Int) (hn : n = l.length) (hm : n ≤ 9223372036854775807) (hi : Ints w a l) (hk : isE l k = false) :
    Calls Tryz.prog 38 #[.agg #[.slice a n cap], .int .i64 k] w fun e w' => e = .returned (.tuple #[tV 0 0 0, .agg #[.int .i64 0, .nilFunc], .bool false]) ∧ Below w.heap.size w w' := by
  have HI := Lib.hid (ints_alloc (ints_alloc (ints_alloc hi (.cells #[.slice a n cap] 26)) (.cells #[.int .i64 0, .int .i64 0, .int .i64 0] 46)) (.cells #[.int .i64 0, .nilFunc] 49))
  have HN := Lib.hid hn
  have C1 := keepC (Joins.below_alloc2 _ (.cells #[.int .i64 0, .int .i64 0, .int .i64 0] 46) (.cells #[.int .i64 0, .nilFunc] 49)) (by simp <;> omega) (newC w (.slice a n cap) 26 (n := w.heap.size) rfl)
  have HB := Lib.hid (Joins.below_alloc3 w (.cells #[.slice a n cap] 26) (.cells #[.int .i64 0, .int .i64 0, .int .i64 0] 46) (.cells #[.int .i64 0, .nilFunc] 49))
  have R1 : Hid ((((w.alloc (.cells #[.slice a n cap] 26)).alloc (.cells #[.int .i64 0, .int .i64 0, .int .i64 0] 46)).alloc (.cells #[.int .i64 0, .nilFunc] 49)).heap[w.heap.size + 1]? = some (.cells #[.int .i64 0, .int .i64 0, .int .i64 0] 46 (0, 0))) := Lib.hid (keepH (Joins.below_alloc1 _ _) (by simp <;> omega) (by simpa using heap_alloc_new (w.alloc (.cells #[.slice a n cap] 26)) (.cells #[.int .i64 0, .int .i64 0, .int .i64 0] 46)))
  have R2 : Hid ((((w.alloc (.cells #[.slice a n cap] 26)).alloc (.cells #[.int .i64 0, .int .i64 0, .int .i64 0] 46)).alloc (.cells #[.int .i64 0, .nilFunc] 49)).heap[w.heap.size + 1 + 1]? = some (.cells #[.int .i64 0, .nilFunc] 49 (0, 0))) := Lib.hid (by simpa using heap_alloc_new ((w.alloc (.cells #[.slice a n cap] 26)).alloc (.cells #[.int .i64 0, .int .i64 0, .int .i64 0] 46)) (.cells #[.int .i64 0, .nilFunc] 49))
  have T0 := Lib.hid (Below.refl (((w.alloc (.cells #[.slice a n cap] 26)).alloc (.cells #[.int .i64 0, .int .i64 0, .int .i64 0] 46)).alloc (.cells #[.int .i64 0, .nilFunc] 49)).heap.size (((w.alloc (.cells #[.slice a n cap] 26)).alloc (.cells #[.int .i64 0, .int .i64 0, .int .i64 0] 46)).alloc (.cells #[.int .i64 0, .nilFunc] 49)))
  clear hi hn
  cases hg : grpB l with
  | false =>
    have HG := Lib.hid hg
    clear hg hk
    go_enter Tryz.func38, Tryz.ntmps38
    go_wp2_with (first | (go_at_call 68; refine (iOrders _ _ _ _ _ HN.out hm HI.out).mono ?_; unfold OrdersPost; rw [HG.out]; rintro e w1 ⟨p', q', r', rfl, hpqr, hb1⟩; clear hpqr; have T1 := Lib.hid (T0.out.trans (hb1.mono T0.out.size)); have TA := Lib.hid (T1.out.alloc T1.out.size (.cells #[.int .i64 p', .int .i64 q', .int .i64 r'] 46)); have c1 := keepC T1.out (by simp <;> omega) C1; obtain ⟨x10, x11, x12, x1f0, x1f1, x1f2⟩ := trip_cell (keepH T1.out (by simp <;> omega) R1.out); obtain ⟨y10, y11, y1f0, y1f1⟩ := two_cell (keepH T1.out (by simp <;> omega) R2.out); have c2 := keepC TA.out (by simp <;> omega) C1; obtain ⟨x20, x21, x22, x2f0, x2f1, x2f2⟩ := trip_cell (keepH TA.out (by simp <;> omega) R1.out); obtain ⟨y20, y21, y2f0, y2f1⟩ := two_cell (keepH TA.out (by simp <;> omega) R2.out); have R7 := Lib.hid (heap_alloc_new w1 (.cells #[.int .i64 p', .int .i64 q', .int .i64 r'] 46))))
    refine bodyPost_ret (v := .tuple #[tV 0 0 0, .agg #[.int .i64 0, .nilFunc], .bool false]) (by simp [results, Tryz.results38, go_sem, x20, x21, x22, y20, y21]) rfl ⟨rfl, below_set2 (below_set3 (HB.out.trans (TA.out.mono (by simp <;> omega))) (by omega)) (by omega)⟩
  | true =>
    have HG := Lib.hid hg
    have HT := Lib.hid (tri_grp hg)
    have HP := prod_pad (grpB_true hg).1
    have HO := ordN_grp hg
    rw [HP] at HO
    obtain ⟨p, EP⟩ : ∃ p, Hid (l.getD 0 1 = p) := ⟨_, Lib.hid rfl⟩
    obtain ⟨q, EQ⟩ : ∃ q, Hid (l.getD 1 1 = q) := ⟨_, Lib.hid rfl⟩
    obtain ⟨r, ER⟩ : ∃ r, Hid (l.getD 2 1 = r) := ⟨_, Lib.hid rfl⟩
    rw [EP.out, EQ.out, ER.out] at HT HO
    have hor : k < 0 ∨ (0 ≤ k ∧ p * q * r ≤ k) := by
      simp only [isE, HO, Bool.and_eq_false_iff, decide_eq_false_iff_not] at hk
      omega
    clear hg hk HP HO
    rcases hor with h | ⟨h, h2⟩
    · go_enter Tryz.func38, Tryz.ntmps38
      go_wp2_with (first
        | (go_at_call 68; refine (iOrders _ _ _ _ _ HN.out hm HI.out).mono ?_; unfold OrdersPost; rw [HG.out]; rintro e w1 ⟨p', q', r', rfl, hpqr, hb1⟩; obtain ⟨e1, e2, e3⟩ := hpqr rfl; clear hpqr; rw [EP.out] at e1; rw [EQ.out] at e2; rw [ER.out] at e3; subst e1 e2 e3; have T1 := Lib.hid (T0.out.trans (hb1.mono T0.out.size)); have TA := Lib.hid (T1.out.alloc T1.out.size (.cells #[.int .i64 p', .int .i64 q', .int .i64 r'] 46)); have c1 := keepC T1.out (by simp <;> omega) C1; obtain ⟨x10, x11, x12, x1f0, x1f1, x1f2⟩ := trip_cell (keepH T1.out (by simp <;> omega) R1.out); obtain ⟨y10, y11, y1f0, y1f1⟩ := two_cell (keepH T1.out (by simp <;> omega) R2.out); have c2 := keepC TA.out (by simp <;> omega) C1; obtain ⟨x20, x21, x22, x2f0, x2f1, x2f2⟩ := trip_cell (keepH TA.out (by simp <;> omega) R1.out); obtain ⟨y20, y21, y2f0, y2f1⟩ := two_cell (keepH TA.out (by simp <;> omega) R2.out); have R7 := Lib.hid (heap_alloc_new w1 (.cells #[.int .i64 p', .int .i64 q', .int .i64 r'] 46))))
      refine bodyPost_ret (v := .tuple #[tV 0 0 0, .agg #[.int .i64 0, .nilFunc], .bool false]) (by simp [results, Tryz.results38, go_sem, x20, x21, x22, y20, y21]) rfl ⟨rfl, below_set2 (below_set3 (HB.out.trans (TA.out.mono (by simp <;> omega))) (by omega)) (by omega)⟩
    · go_enter Tryz.func38, Tryz.ntmps38
      go_wp2_with (first
        | (go_at_call 39; refine (iProduct _ _ _ _ HT.out).mono ?_; rintro e w2 ⟨rfl, hb2⟩; have T2 := Lib.hid (TA.out.trans (hb2.mono TA.out.size)); have c3 := keepC T2.out (by simp <;> omega) C1; obtain ⟨x30, x31, x32, x3f0, x3f1, x3f2⟩ := trip_cell (keepH T2.out (by simp <;> omega) R1.out); obtain ⟨y30, y31, y3f0, y3f1⟩ := two_cell (keepH T2.out (by simp <;> omega) R2.out); obtain ⟨z30, z31, z32, z3f0, z3f1, z3f2⟩ := trip_cell (keepH hb2 (by simp <;> omega) R7.out))
        | (go_at_call 68; refine (iOrders _ _ _ _ _ HN.out hm HI.out).mono ?_; unfold OrdersPost; rw [HG.out]; rintro e w1 ⟨p', q', r', rfl, hpqr, hb1⟩; obtain ⟨e1, e2, e3⟩ := hpqr rfl; clear hpqr; rw [EP.out] at e1; rw [EQ.out] at e2; rw [ER.out] at e3; subst e1 e2 e3; have T1 := Lib.hid (T0.out.trans (hb1.mono T0.out.size)); have TA := Lib.hid (T1.out.alloc T1.out.size (.cells #[.int .i64 p', .int .i64 q', .int .i64 r'] 46)); have c1 := keepC T1.out (by simp <;> omega) C1; obtain ⟨x10, x11, x12, x1f0, x1f1, x1f2⟩ := trip_cell (keepH T1.out (by simp <;> omega) R1.out); obtain ⟨y10, y11, y1f0, y1f1⟩ := two_cell (keepH T1.out (by simp <;> omega) R2.out); have c2 := keepC TA.out (by simp <;> omega) C1; obtain ⟨x20, x21, x22, x2f0, x2f1, x2f2⟩ := trip_cell (keepH TA.out (by simp <;> omega) R1.out); obtain ⟨y20, y21, y2f0, y2f1⟩ := two_cell (keepH TA.out (by simp <;> omega) R2.out); have R7 := Lib.hid (heap_alloc_new w1 (.cells #[.int .i64 p', .int .i64 q', .int .i64 r'] 46))))
      refine bodyPost_ret (v := .tuple #[tV 0 0 0, .agg #[.int .i64 0, .nilFunc], .bool false]) (by simp [results, Tryz.results38, go_sem, x30, x31, x32, y30, y31]) rfl ⟨rfl, below_set2 (below_set3 (HB.out.trans (T2.out.mono (by simp <;> omega))) (by omega)) (by omega)⟩
theorem ChrAt.grown {W W' : World} {l : List Int} {k : Int} {bo bp be g : Nat} (h : ChrAt W l k bo bp be) (hg : W.grownBy W' (some g)) (ho : bo ≠ g) (hp : bp ≠ g) (he : be ≠ g) : ChrAt W' l k bo bp be :=
  ⟨(hg.block _ (Array.getElem?_eq_some_iff.1 h.o).1 (fun e => by injection e with e; exact ho e)).trans h.o, (hg.block _ (Array.getElem?_eq_some_iff.1 h.p).1 (fun e => by injection e with e; exact hp e)).trans h.p, (hg.block _ (Array.getElem?_eq_some_iff.1 h.e).1 (fun e => by injection e with e; exact he e)).trans h.e⟩
set_option maxHeartbeats 2000000 in
theorem iCIn_yes (w : World) (a : Option Addr) (l : List Int) (n cap : Nat) (k : Int) (hn : n = l.length) (hm : n ≤ 9223372036854775807) (hi : Ints w a l) (hk : isE l k = true) :
    Calls Tryz.prog 38 #[.agg #[.slice a n cap], .int .i64 k] w fun e w' => ∃ bo bp be, e = .returned (.tuple #[tV (l.getD 0 1) (l.getD 1 1) (l.getD 2 1), .agg #[.int .i64 (expN l), chrF bo bp be], .bool true]) ∧ ChrAt w' l k bo bp be ∧ (w.heap.size ≤ bo ∧ w.heap.size ≤ bp ∧ w.heap.size ≤ be) ∧ Below w.heap.size w w' := by
  have HI := Lib.hid (ints_alloc (ints_alloc (ints_alloc hi (.cells #[.slice a n cap] 26)) (.cells #[.int .i64 0, .int .i64 0, .int .i64 0] 46)) (.cells #[.int .i64 0, .nilFunc] 49))
  have HN := Lib.hid hn
  have C1 := keepC (Joins.below_alloc2 _ (.cells #[.int .i64 0, .int .i64 0, .int .i64 0] 46) (.cells #[.int .i64 0, .nilFunc] 49)) (by simp <;> omega) (newC w (.slice a n cap) 26 (n := w.heap.size) rfl)
  have HB := Lib.hid (Joins.below_alloc3 w (.cells #[.slice a n cap] 26) (.cells #[.int .i64 0, .int .i64 0, .int .i64 0] 46) (.cells #[.int .i64 0, .nilFunc] 49))
  have R1 : Hid ((((w.alloc (.cells #[.slice a n cap] 26)).alloc (.cells #[.int .i64 0, .int .i64 0, .int .i64 0] 46)).alloc (.cells #[.int .i64 0, .nilFunc] 49)).heap[w.heap.size + 1]? = some (.cells #[.int .i64 0, .int .i64 0, .int .i64 0] 46 (0, 0))) := Lib.hid (keepH (Joins.below_alloc1 _ _) (by simp <;> omega) (by simpa using heap_alloc_new (w.alloc (.cells #[.slice a n cap] 26)) (.cells #[.int .i64 0, .int .i64 0, .int .i64 0] 46)))
  have R2 : Hid ((((w.alloc (.cells #[.slice a n cap] 26)).alloc (.cells #[.int .i64 0, .int .i64 0, .int .i64 0] 46)).alloc (.cells #[.int .i64 0, .nilFunc] 49)).heap[w.heap.size + 1 + 1]? = some (.cells #[.int .i64 0, .nilFunc] 49 (0, 0))) := Lib.hid (by simpa using heap_alloc_new ((w.alloc (.cells #[.slice a n cap] 26)).alloc (.cells #[.int .i64 0, .int .i64 0, .int .i64 0] 46)) (.cells #[.int .i64 0, .nilFunc] 49))
  have T0 := Lib.hid (Below.refl (((w.alloc (.cells #[.slice a n cap] 26)).alloc (.cells #[.int .i64 0, .int .i64 0, .int .i64 0] 46)).alloc (.cells #[.int .i64 0, .nilFunc] 49)).heap.size (((w.alloc (.cells #[.slice a n cap] 26)).alloc (.cells #[.int .i64 0, .int .i64 0, .int .i64 0] 46)).alloc (.cells #[.int .i64 0, .nilFunc] 49)))
  clear hi hn
  obtain ⟨hg, hx0, hxN, hx23⟩ := isE_true hk
  have HG := Lib.hid hg
  have HT := Lib.hid (tri_grp hg)
  have HCH := Lib.hid (fun (W : World) => iChr hg W k hx0 hx23)
  have HP := prod_pad (grpB_true hg).1
  rw [HP] at hxN
  obtain ⟨E, EE⟩ : ∃ E, Hid (expN l = E) := ⟨_, Lib.hid rfl⟩
  obtain ⟨p, EP⟩ : ∃ p, Hid (l.getD 0 1 = p) := ⟨_, Lib.hid rfl⟩
  obtain ⟨q, EQ⟩ : ∃ q, Hid (l.getD 1 1 = q) := ⟨_, Lib.hid rfl⟩
  obtain ⟨r, ER⟩ : ∃ r, Hid (l.getD 2 1 = r) := ⟨_, Lib.hid rfl⟩
  rw [EP.out, EQ.out, ER.out] at HT hxN HCH
  rw [EP.out, EQ.out, ER.out]
  rw [EE.out] at HCH
  rw [EE.out]
  simp only [chrF] at HCH
  clear hg hk HP
  go_enter Tryz.func38, Tryz.ntmps38
  go_wp2_with (first
    | (go_at_call 39; refine (iProduct _ _ _ _ HT.out).mono ?_; rintro e w2 ⟨rfl, hb2⟩; have T2 := Lib.hid (TA.out.trans (hb2.mono TA.out.size)); have c3 := keepC T2.out (by simp <;> omega) C1; obtain ⟨x30, x31, x32, x3f0, x3f1, x3f2⟩ := trip_cell (keepH T2.out (by simp <;> omega) R1.out); obtain ⟨y30, y31, y3f0, y3f1⟩ := two_cell (keepH T2.out (by simp <;> omega) R2.out); obtain ⟨z30, z31, z32, z3f0, z3f1, z3f2⟩ := trip_cell (keepH hb2 (by simp <;> omega) R7.out))
    | (go_at_call 68; refine (iOrders _ _ _ _ _ HN.out hm HI.out).mono ?_; unfold OrdersPost; rw [HG.out]; rintro e w1 ⟨p', q', r', rfl, hpqr, hb1⟩; obtain ⟨e1, e2, e3⟩ := hpqr rfl; clear hpqr; rw [EP.out] at e1; rw [EQ.out] at e2; rw [ER.out] at e3; subst e1 e2 e3; have T1 := Lib.hid (T0.out.trans (hb1.mono T0.out.size)); have TA := Lib.hid (T1.out.alloc T1.out.size (.cells #[.int .i64 p', .int .i64 q', .int .i64 r'] 46)); have c1 := keepC T1.out (by simp <;> omega) C1; obtain ⟨x10, x11, x12, x1f0, x1f1, x1f2⟩ := trip_cell (keepH T1.out (by simp <;> omega) R1.out); obtain ⟨y10, y11, y1f0, y1f1⟩ := two_cell (keepH T1.out (by simp <;> omega) R2.out); have c2 := keepC TA.out (by simp <;> omega) C1; obtain ⟨x20, x21, x22, x2f0, x2f1, x2f2⟩ := trip_cell (keepH TA.out (by simp <;> omega) R1.out); obtain ⟨y20, y21, y2f0, y2f1⟩ := two_cell (keepH TA.out (by simp <;> omega) R2.out); have R7 := Lib.hid (heap_alloc_new w1 (.cells #[.int .i64 p', .int .i64 q', .int .i64 r'] 46))))
  go_region_with (first | (go_at_call 69; refine (HCH.out _).mono ?_; rintro e w3 ⟨a1, a2, a3, rfl, hc3, hle3, hb3⟩; have HC3 := Lib.hid hc3; have HL3 := Lib.hid hle3; clear hc3 hle3; have T3 := Lib.hid (T2.out.drew.trans (hb3.mono T2.out.size)); have c4 := keepC T3.out (by simp <;> omega) C1; obtain ⟨x40, x41, x42, x4f0, x4f1, x4f2⟩ := trip_cell (keepH T3.out (by simp <;> omega) R1.out); obtain ⟨y40, y41, y4f0, y4f1⟩ := two_cell (keepH T3.out (by simp <;> omega) R2.out); obtain ⟨z40, z41, z42, z4f0, z4f1, z4f2⟩ := trip_cell (keepH (hb2.drew.trans (hb3.mono hb2.size)) (by simp <;> omega) R7.out)))
  all_goals
    have hsz : w.heap.size + 3 ≤ w2.heap.size := by have := T2.out.size; simpa using this
    have hl := HL3.out
    simp only [World.size_drew] at hl
    go_wp2
    have hX := grownG_set (grownG_set (grownG_set (World.grownBy.refl w3 (some (w.heap.size + 1))) 0 (.int .i64 p')) 1 (.int .i64 q')) 2 (.int .i64 r')
    have hc := HC3.out.grown hX (by omega) (by omega) (by omega)
    have hY := grownG_set (grownG_set (World.grownBy.refl (((w3.setCell ⟨w.heap.size + 1, 0, none⟩ (.int .i64 p')).setCell ⟨w.heap.size + 1, 1, none⟩ (.int .i64 q')).setCell ⟨w.heap.size + 1, 2, none⟩ (.int .i64 r')) (some (w.heap.size + 1 + 1))) 0 (.int .i64 E)) 1 (chrF a1 a2 a3)
    have hd := hc.grown hY (by omega) (by omega) (by omega)
    refine bodyPost_ret (v := .tuple #[tV p' q' r', .agg #[.int .i64 E, chrF a1 a2 a3], .bool true]) (by simp [results, Tryz.results38, go_sem, x40, x41, x42, y40, y41, chrF]) rfl ⟨_, _, _, rfl, hd, ⟨by omega, by omega, by omega⟩, below_set2 (below_set3 (HB.out.trans (T3.out.mono (by simp <;> omega))) (by omega)) (by omega)⟩
set_option maxHeartbeats 2000000 in
theorem iCV (w : World) (a : Option Addr) (l : List Int) (n cap : Nat) (k x : Int) (hn : n = l.length) (hm : n ≤ 9223372036854775807) (hi : Ints w a l) :
    Calls Tryz.prog 6 #[.agg #[.slice a n cap], .int .i64 k, .int .i64 x] w fun e w' => e = .returned (.int .i64 (valE l k x)) ∧ Below w.heap.size w w' := by
  have HI := Lib.hid (ints_alloc hi (.cells #[.slice a n cap] 26))
  have HN := Lib.hid hn
  have C1 := newC w (.slice a n cap) 26 (n := w.heap.size) rfl
  have HB := Lib.hid (Joins.below_alloc1 w (.cells #[.slice a n cap] 26))
  have T0 := Lib.hid (Below.refl (w.alloc (.cells #[.slice a n cap] 26)).heap.size (w.alloc (.cells #[.slice a n cap] 26)))
  clear hi hn
  cases hk : isE l k with
  | false =>
    have HK := Lib.hid hk
    rw [show valE l k x = -1 by unfold valE; rw [if_neg (by simp [hk])]]
    clear hk
    go_enter Tryz.func6, Tryz.ntmps6
    go_wp2_with (go_at_call 38; refine (iCIn_no _ _ _ _ _ k HN.out hm (HI.out.below rfl T0.out) HK.out).mono ?_; rintro e w1 ⟨rfl, hb1⟩; have TA := Lib.hid (((HB.out.trans (hb1.mono (by simp))).alloc (Nat.le_trans (by simp) hb1.size) (.cells #[.int .i64 0, .int .i64 0, .int .i64 0] 46)).alloc (by have := hb1.size; simp at *; omega) (.cells #[.int .i64 0, .nilFunc] 49)))
    go_ret
    exact ⟨rfl, TA.out⟩
  | true =>
    have HK := Lib.hid hk
    obtain ⟨hg, k0, kP, k23⟩ := isE_true hk
    have HT := Lib.hid (tri_grp hg)
    have HP := prod_pad (grpB_true hg).1
    have HV1 : Hid (0 ≤ x → x < prodI l → valE l k x = chN l k x) := Lib.hid (fun h1 h2 => by unfold valE; rw [if_pos ⟨hk, by simp only [isE, ordN_grp hg, Bool.and_eq_true, decide_eq_true_eq]; exact ⟨h1, h2⟩⟩])
    have HV0 : Hid ((x < 0 ∨ prodI l ≤ x) → valE l k x = -1) := Lib.hid (fun h => by unfold valE; rw [if_neg (fun h2 => by have h3 := h2.2; simp only [isE, ordN_grp hg, Bool.and_eq_true, decide_eq_true_eq] at h3; omega)])
    have HVV := Lib.hid (fun (W : World) (x : Int) (h0 : 0 ≤ x) (h1 : x ≤ 23) (b1 b2 b3 : Nat) (h : ChrAt W l k b1 b2 b3) => iVal hg W k x h0 h1 h)
    rw [HP] at HV1 HV0
    obtain ⟨E, EE⟩ : ∃ E, Hid (expN l = E) := ⟨_, Lib.hid rfl⟩
    obtain ⟨p, EP⟩ : ∃ p, Hid (l.getD 0 1 = p) := ⟨_, Lib.hid rfl⟩
    obtain ⟨q, EQ⟩ : ∃ q, Hid (l.getD 1 1 = q) := ⟨_, Lib.hid rfl⟩
    obtain ⟨r, ER⟩ : ∃ r, Hid (l.getD 2 1 = r) := ⟨_, Lib.hid rfl⟩
    rw [EP.out, EQ.out, ER.out] at HT HV1 HV0
    have hpq1 := HT.out.pqr1
    have hpq2 := HT.out.pqr2
    clear hk hg HP kP
    by_cases h0 : x < 0
    · rw [HV0.out (.inl h0)]
      go_enter Tryz.func6, Tryz.ntmps6
      go_wp2_with (first
        | (go_at_call 38; refine (iCIn_yes _ _ _ _ _ k HN.out hm (HI.out.below rfl T0.out) HK.out).mono ?_; rw [EP.out, EQ.out, ER.out, EE.out]; simp only [chrF]; rintro e w1 ⟨a1, a2, a3, rfl, hc1, _, hb1⟩; have TA := Lib.hid (((HB.out.trans (hb1.mono (by simp))).alloc (Nat.le_trans (by simp) hb1.size) (.cells #[.int .i64 p, .int .i64 q, .int .i64 r] 46)).alloc (by have := hb1.size; simp at *; omega) (.cells #[.int .i64 E, .func (.func 90) #[] #[.pointer (some ⟨a1, 0, none⟩), .pointer (some ⟨a2, 0, none⟩), .pointer (some ⟨a3, 0, none⟩)]] 49)); have BC := Lib.hid (Joins.below_alloc2 w1 (.cells #[.int .i64 p, .int .i64 q, .int .i64 r] 46) (.cells #[.int .i64 E, .func (.func 90) #[] #[.pointer (some ⟨a1, 0, none⟩), .pointer (some ⟨a2, 0, none⟩), .pointer (some ⟨a3, 0, none⟩)]] 49)); have HC1 := Lib.hid (hc1.below BC.out); have RY := Lib.hid (keepH (Joins.below_alloc1 _ (.cells #[.int .i64 E, .func (.func 90) #[] #[.pointer (some ⟨a1, 0, none⟩), .pointer (some ⟨a2, 0, none⟩), .pointer (some ⟨a3, 0, none⟩)]] 49)) (by simp) (heap_alloc_new w1 (.cells #[.int .i64 p, .int .i64 q, .int .i64 r] 46))); have RC : Hid (((w1.alloc (.cells #[.int .i64 p, .int .i64 q, .int .i64 r] 46)).alloc (.cells #[.int .i64 E, .func (.func 90) #[] #[.pointer (some ⟨a1, 0, none⟩), .pointer (some ⟨a2, 0, none⟩), .pointer (some ⟨a3, 0, none⟩)]] 49)).heap[w1.heap.size + 1]? = some (.cells #[.int .i64 E, .func (.func 90) #[] #[.pointer (some ⟨a1, 0, none⟩), .pointer (some ⟨a2, 0, none⟩), .pointer (some ⟨a3, 0, none⟩)]] 49 (0, 0))) := Lib.hid (by simpa using heap_alloc_new (w1.alloc (.cells #[.int .i64 p, .int .i64 q, .int .i64 r] 46)) (.cells #[.int .i64 E, .func (.func 90) #[] #[.pointer (some ⟨a1, 0, none⟩), .pointer (some ⟨a2, 0, none⟩), .pointer (some ⟨a3, 0, none⟩)]] 49)); obtain ⟨y0, y1, y2, _, _, _⟩ := trip_cell RY.out; obtain ⟨v0, v1, _, _⟩ := two_cell RC.out; clear hc1))
      go_ret
      exact ⟨rfl, TA.out⟩
    · have h0' : 0 ≤ x := by omega
      by_cases h1 : p * q * r ≤ x
      · rw [HV0.out (.inr h1)]
        clear h0
        go_enter Tryz.func6, Tryz.ntmps6
        go_wp2_with (first
          | (go_at_call 39; refine (iProduct _ _ _ _ HT.out).mono ?_; rintro e w2 ⟨rfl, hb2⟩; have TB := Lib.hid (TA.out.trans (hb2.mono TA.out.size)))
          | (go_at_call 38; refine (iCIn_yes _ _ _ _ _ k HN.out hm (HI.out.below rfl T0.out) HK.out).mono ?_; rw [EP.out, EQ.out, ER.out, EE.out]; simp only [chrF]; rintro e w1 ⟨a1, a2, a3, rfl, hc1, _, hb1⟩; have TA := Lib.hid (((HB.out.trans (hb1.mono (by simp))).alloc (Nat.le_trans (by simp) hb1.size) (.cells #[.int .i64 p, .int .i64 q, .int .i64 r] 46)).alloc (by have := hb1.size; simp at *; omega) (.cells #[.int .i64 E, .func (.func 90) #[] #[.pointer (some ⟨a1, 0, none⟩), .pointer (some ⟨a2, 0, none⟩), .pointer (some ⟨a3, 0, none⟩)]] 49)); have BC := Lib.hid (Joins.below_alloc2 w1 (.cells #[.int .i64 p, .int .i64 q, .int .i64 r] 46) (.cells #[.int .i64 E, .func (.func 90) #[] #[.pointer (some ⟨a1, 0, none⟩), .pointer (some ⟨a2, 0, none⟩), .pointer (some ⟨a3, 0, none⟩)]] 49)); have HC1 := Lib.hid (hc1.below BC.out); have RY := Lib.hid (keepH (Joins.below_alloc1 _ (.cells #[.int .i64 E, .func (.func 90) #[] #[.pointer (some ⟨a1, 0, none⟩), .pointer (some ⟨a2, 0, none⟩), .pointer (some ⟨a3, 0, none⟩)]] 49)) (by simp) (heap_alloc_new w1 (.cells #[.int .i64 p, .int .i64 q, .int .i64 r] 46))); have RC : Hid (((w1.alloc (.cells #[.int .i64 p, .int .i64 q, .int .i64 r] 46)).alloc (.cells #[.int .i64 E, .func (.func 90) #[] #[.pointer (some ⟨a1, 0, none⟩), .pointer (some ⟨a2, 0, none⟩), .pointer (some ⟨a3, 0, none⟩)]] 49)).heap[w1.heap.size + 1]? = some (.cells #[.int .i64 E, .func (.func 90) #[] #[.pointer (some ⟨a1, 0, none⟩), .pointer (some ⟨a2, 0, none⟩), .pointer (some ⟨a3, 0, none⟩)]] 49 (0, 0))) := Lib.hid (by simpa using heap_alloc_new (w1.alloc (.cells #[.int .i64 p, .int .i64 q, .int .i64 r] 46)) (.cells #[.int .i64 E, .func (.func 90) #[] #[.pointer (some ⟨a1, 0, none⟩), .pointer (some ⟨a2, 0, none⟩), .pointer (some ⟨a3, 0, none⟩)]] 49)); obtain ⟨y0, y1, y2, _, _, _⟩ := trip_cell RY.out; obtain ⟨v0, v1, _, _⟩ := two_cell RC.out; clear hc1))
        go_ret
        exact ⟨rfl, TB.out⟩
      · have h1' : x < p * q * r := by omega
        have hx23 : x ≤ 23 := by omega
        rw [HV1.out h0' h1']
        clear h0
        go_enter Tryz.func6, Tryz.ntmps6
        go_wp2_with (first
          | (go_at_call 90; refine (HVV.out _ x h0' hx23 _ _ _ HC2.out).mono ?_; rintro e w3 ⟨rfl, hb3⟩; have TC := Lib.hid (TB.out.trans (hb3.mono TB.out.size)))
          | (go_at_call 39; refine (iProduct _ _ _ _ HT.out).mono ?_; rintro e w2 ⟨rfl, hb2⟩; have TB := Lib.hid (TA.out.trans (hb2.mono TA.out.size)); have HC2 := Lib.hid (HC1.out.below hb2); obtain ⟨u0, u1, _, _⟩ := two_cell (keepH hb2 (by simp) RC.out))
          | (go_at_call 38; refine (iCIn_yes _ _ _ _ _ k HN.out hm (HI.out.below rfl T0.out) HK.out).mono ?_; rw [EP.out, EQ.out, ER.out, EE.out]; simp only [chrF]; rintro e w1 ⟨a1, a2, a3, rfl, hc1, _, hb1⟩; have TA := Lib.hid (((HB.out.trans (hb1.mono (by simp))).alloc (Nat.le_trans (by simp) hb1.size) (.cells #[.int .i64 p, .int .i64 q, .int .i64 r] 46)).alloc (by have := hb1.size; simp at *; omega) (.cells #[.int .i64 E, .func (.func 90) #[] #[.pointer (some ⟨a1, 0, none⟩), .pointer (some ⟨a2, 0, none⟩), .pointer (some ⟨a3, 0, none⟩)]] 49)); have BC := Lib.hid (Joins.below_alloc2 w1 (.cells #[.int .i64 p, .int .i64 q, .int .i64 r] 46) (.cells #[.int .i64 E, .func (.func 90) #[] #[.pointer (some ⟨a1, 0, none⟩), .pointer (some ⟨a2, 0, none⟩), .pointer (some ⟨a3, 0, none⟩)]] 49)); have HC1 := Lib.hid (hc1.below BC.out); have RY := Lib.hid (keepH (Joins.below_alloc1 _ (.cells #[.int .i64 E, .func (.func 90) #[] #[.pointer (some ⟨a1, 0, none⟩), .pointer (some ⟨a2, 0, none⟩), .pointer (some ⟨a3, 0, none⟩)]] 49)) (by simp) (heap_alloc_new w1 (.cells #[.int .i64 p, .int .i64 q, .int .i64 r] 46))); have RC : Hid (((w1.alloc (.cells #[.int .i64 p, .int .i64 q, .int .i64 r] 46)).alloc (.cells #[.int .i64 E, .func (.func 90) #[] #[.pointer (some ⟨a1, 0, none⟩), .pointer (some ⟨a2, 0, none⟩), .pointer (some ⟨a3, 0, none⟩)]] 49)).heap[w1.heap.size + 1]? = some (.cells #[.int .i64 E, .func (.func 90) #[] #[.pointer (some ⟨a1, 0, none⟩), .pointer (some ⟨a2, 0, none⟩), .pointer (some ⟨a3, 0, none⟩)]] 49 (0, 0))) := Lib.hid (by simpa using heap_alloc_new (w1.alloc (.cells #[.int .i64 p, .int .i64 q, .int .i64 r] 46)) (.cells #[.int .i64 E, .func (.func 90) #[] #[.pointer (some ⟨a1, 0, none⟩), .pointer (some ⟨a2, 0, none⟩), .pointer (some ⟨a3, 0, none⟩)]] 49)); obtain ⟨y0, y1, y2, _, _, _⟩ := trip_cell RY.out; obtain ⟨v0, v1, _, _⟩ := two_cell RC.out; clear hc1))
        go_ret
        exact ⟨rfl, TC.out⟩
set_option maxHeartbeats 2000000 in
theorem iKO (w : World) (a : Option Addr) (l : List Int) (n cap : Nat) (k : Int) (hn : n = l.length) (hm : n ≤ 9223372036854775807) (hi : Ints w a l) :
    Calls Tryz.prog 30 #[.agg #[.slice a n cap], .int .i64 k] w fun e w' => e = .returned (.int .i64 (kerE l k)) ∧ Below w.heap.size w w' := by
  have HI := Lib.hid (ints_alloc hi (.cells #[.slice a n cap] 26))
  have HN := Lib.hid hn
  have C1 := newC w (.slice a n cap) 26 (n := w.heap.size) rfl
  have HB := Lib.hid (Joins.below_alloc1 w (.cells #[.slice a n cap] 26))
  have T0 := Lib.hid (Below.refl (w.alloc (.cells #[.slice a n cap] 26)).heap.size (w.alloc (.cells #[.slice a n cap] 26)))
  clear hi hn
  cases hk : isE l k with
  | false =>
    have HK := Lib.hid hk
    rw [show kerE l k = -1 by unfold kerE; rw [if_neg (by simp [hk])]]
    clear hk
    go_enter Tryz.func30, Tryz.ntmps30
    go_wp2_with (go_at_call 38; refine (iCIn_no _ _ _ _ _ k HN.out hm (HI.out.below rfl T0.out) HK.out).mono ?_; rintro e w1 ⟨rfl, hb1⟩; have TA := Lib.hid (((HB.out.trans (hb1.mono (by simp))).alloc (Nat.le_trans (by simp) hb1.size) (.cells #[.int .i64 0, .int .i64 0, .int .i64 0] 46)).alloc (by have := hb1.size; simp at *; omega) (.cells #[.int .i64 0, .nilFunc] 49)))
    go_ret
    exact ⟨rfl, TA.out⟩
  | true =>
    have HK := Lib.hid hk
    obtain ⟨hg, k0, kP, k23⟩ := isE_true hk
    have HT := Lib.hid (tri_grp hg)
    have HP := prod_pad (grpB_true hg).1
    obtain ⟨k, rfl⟩ : ∃ n : Nat, k = (n : Int) := ⟨k.toNat, by omega⟩
    have hpr := (ords_grp hg).prod
    rw [show kerE l (k : Int) = ((kerK l k (prodI l).toNat : Nat) : Int) by unfold kerE; rw [if_pos hk, Int.toNat_natCast]]
    have HVV := Lib.hid (fun (W : World) (b1 b2 b3 : Nat) (h : ChrAt W l (k : Int) b1 b2 b3) => iKer hg W k h)
    have hS24 : kerK l k (prodI l).toNat < 16777216 := kerK_lt24 l k (by omega)
    obtain ⟨S, hSS⟩ : ∃ S, kerK l k (prodI l).toNat = S := ⟨_, rfl⟩
    rw [hSS] at hS24 HVV ⊢
    obtain ⟨E, EE⟩ : ∃ E, Hid (expN l = E) := ⟨_, Lib.hid rfl⟩
    obtain ⟨p, EP⟩ : ∃ p, Hid (l.getD 0 1 = p) := ⟨_, Lib.hid rfl⟩
    obtain ⟨q, EQ⟩ : ∃ q, Hid (l.getD 1 1 = q) := ⟨_, Lib.hid rfl⟩
    obtain ⟨r, ER⟩ : ∃ r, Hid (l.getD 2 1 = r) := ⟨_, Lib.hid rfl⟩
    rw [EP.out, EQ.out, ER.out] at HT HVV
    rw [EE.out] at HVV
    simp only [chrF] at HVV
    clear hk hg HP kP hSS hpr
    go_enter Tryz.func30, Tryz.ntmps30
    go_wp2_with (first
      | (go_at_call 59; refine (HVV.out _ _ _ _ HC1.out).mono ?_; rintro e w3 ⟨rfl, hb3⟩; have TC := Lib.hid (TA.out.trans (hb3.mono TA.out.size)))
      | (go_at_call 38; refine (iCIn_yes _ _ _ _ _ k HN.out hm (HI.out.below rfl T0.out) HK.out).mono ?_; rw [EP.out, EQ.out, ER.out, EE.out]; simp only [chrF]; rintro e w1 ⟨a1, a2, a3, rfl, hc1, _, hb1⟩; have TA := Lib.hid (((HB.out.trans (hb1.mono (by simp))).alloc (Nat.le_trans (by simp) hb1.size) (.cells #[.int .i64 p, .int .i64 q, .int .i64 r] 46)).alloc (by have := hb1.size; simp at *; omega) (.cells #[.int .i64 E, .func (.func 90) #[] #[.pointer (some ⟨a1, 0, none⟩), .pointer (some ⟨a2, 0, none⟩), .pointer (some ⟨a3, 0, none⟩)]] 49)); have BC := Lib.hid (Joins.below_alloc2 w1 (.cells #[.int .i64 p, .int .i64 q, .int .i64 r] 46) (.cells #[.int .i64 E, .func (.func 90) #[] #[.pointer (some ⟨a1, 0, none⟩), .pointer (some ⟨a2, 0, none⟩), .pointer (some ⟨a3, 0, none⟩)]] 49)); have HC1 := Lib.hid (hc1.below BC.out); have RY := Lib.hid (keepH (Joins.below_alloc1 _ (.cells #[.int .i64 E, .func (.func 90) #[] #[.pointer (some ⟨a1, 0, none⟩), .pointer (some ⟨a2, 0, none⟩), .pointer (some ⟨a3, 0, none⟩)]] 49)) (by simp) (heap_alloc_new w1 (.cells #[.int .i64 p, .int .i64 q, .int .i64 r] 46))); have RC : Hid (((w1.alloc (.cells #[.int .i64 p, .int .i64 q, .int .i64 r] 46)).alloc (.cells #[.int .i64 E, .func (.func 90) #[] #[.pointer (some ⟨a1, 0, none⟩), .pointer (some ⟨a2, 0, none⟩), .pointer (some ⟨a3, 0, none⟩)]] 49)).heap[w1.heap.size + 1]? = some (.cells #[.int .i64 E, .func (.func 90) #[] #[.pointer (some ⟨a1, 0, none⟩), .pointer (some ⟨a2, 0, none⟩), .pointer (some ⟨a3, 0, none⟩)]] 49 (0, 0))) := Lib.hid (by simpa using heap_alloc_new (w1.alloc (.cells #[.int .i64 p, .int .i64 q, .int .i64 r] 46)) (.cells #[.int .i64 E, .func (.func 90) #[] #[.pointer (some ⟨a1, 0, none⟩), .pointer (some ⟨a2, 0, none⟩), .pointer (some ⟨a3, 0, none⟩)]] 49)); obtain ⟨y0, y1, y2, _, _, _⟩ := trip_cell RY.out; obtain ⟨v0, v1, _, _⟩ := two_cell RC.out; clear hc1))
    go_ret
    exact ⟨rfl, TC.out⟩
end Go.Proofs.YthlpjiibjlaebaaGreatDoor
