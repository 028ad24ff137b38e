/- The contracts of the program's own functions on groups: orders of elements. -/
import Derived.Test.YtaacofbmbpkeoaaDoorGrpMul
import Derived.ChangeKeysEq
import Derived.Laws.StructEq
namespace Go.Proofs.YtaacofbmbpkeoaaDoor
open Go.RowKit
set_option maxRecDepth 1000000
/-- What the order of an element is; 0 for no element. -/
def OrdX (l : List Int) (x : Int) (m : Nat) : Prop := (isE l x = true → IsOrd l x m) ∧ (isE l x = false → m = 0)
theorem ordX_ex (l : List Int) (x : Int) : ∃ m, OrdX l x m := by
  cases hx : isE l x with
  | false => exact ⟨0, (fun h => by rw [hx] at h; cases h), fun _ => rfl⟩
  | true =>
    obtain ⟨m, hm⟩ := isOrd_ex (ords_grp (isE_true hx).1) x
    exact ⟨m, fun _ => hm, (fun h => by rw [hx] at h; cases h)⟩
theorem sOrdX (w : World) (a : Option Addr) (l : List Int) (n cap : Nat) (x : Int) (m : Nat) (hn : n = l.length) (hm : n ≤ 9223372036854775807) (hi : Ints w a l) (ho : OrdX l x m) :
    Calls Tryd.prog 40 #[.agg #[.slice a n cap], .int .i64 x] w fun e w' => e = .returned (.int .i64 m) ∧ Below w.heap.size w w' := by
  cases hx : isE l x with
  | false => rw [ho.2 hx]; exact sOrd_no w a l n cap x hn hm hi hx
  | true => exact sOrd_yes w a l n cap x m hn hm hi hx (ho.1 hx)
theorem set_trip {w : World} {b : Nat} {x y z x' y' z' : Value} {T : TypeId} (h : w.heap[b]? = some (.cells #[x, y, z] T (0, 0))) :
    (((w.setCell ⟨b, 0, none⟩ x').setCell ⟨b, 1, none⟩ y').setCell ⟨b, 2, none⟩ z').heap[b]? = some (.cells #[x', y', z'] T (0, 0)) := by
  rw [heap_setCell_same _ b 2 _ _ z' (heap_setCell_same _ b 1 _ _ y' (heap_setCell_same w b 0 _ _ x' h))]; rfl
theorem step_mod (u j p : Int) : (u * j % p + u) % p = u * (j + 1) % p := by
  rw [Int.emod_add_emod, Int.mul_add, Int.mul_one]
theorem triNe (a b c : Int) (w : World) : (binOp .neq 45 (tV a b c) (tV 0 0 0)).run Tryd.prog w = .ok (.bool (!(a == 0 && (b == 0 && c == 0)))) w := by
  obtain ⟨i0, hi, _, _, _⟩ := info_parts intInfo
  rw [run_neq_struct, show (10000 : Nat) = 9999 + 1 from rfl, run_equalIn_array w 9999 _ _ triArr hi]
  rw [show Tryd.prog.cellsOf 3 = 1 by kernel_rfl]
  simp [List.range_succ, Op.eqItems, part, isAgg, run_underlying Tryd.underlying3, run_equalIn_int w 9998 3 .i64 .i64 _ _ Tryd.underlying3]
  by_cases ha : a = 0 <;> by_cases hb : b = 0 <;> by_cases hc : c = 0 <;> simp [ha, hb, hc]
set_option maxHeartbeats 1000000 in
theorem iOrd (w : World) (a : Option Addr) (l : List Int) (n cap : Nat) (x : Int) (m : Nat) (hn : n = l.length) (hm : n ≤ 9223372036854775807) (hi : Ints w a l) (ho : OrdX l x m) :
    Calls Tryd.prog 44 #[.agg #[.slice a n cap], .int .i64 x] w fun e w' => e = .returned (.int .i64 m) ∧ Below w.heap.size w w' := by
  have HI := Lib.hid (ints_alloc hi (.cells #[.slice a n cap] 27))
  have HN := Lib.hid hn
  have C1 := newC w (.slice a n cap) 27 (n := w.heap.size) rfl
  have HB := Lib.hid (Joins.below_alloc1 w (.cells #[.slice a n cap] 27))
  have T0 := Lib.hid (Below.refl (w.alloc (.cells #[.slice a n cap] 27)).heap.size (w.alloc (.cells #[.slice a n cap] 27)))
  clear hi hn
  cases hx : isE l x with
  | false =>
    have HX := Lib.hid hx
    have hm0 := ho.2 hx
    subst hm0
    clear hx ho
    go_enter Tryd.func44, Tryd.ntmps44
    go_wp2_with (first
      | (go_at_call 58; refine (iIn _ _ _ _ _ x HN.out hm (HI.out.below rfl T0.out)).mono ?_; unfold InPost; rw [HX.out]; rintro e w1 ⟨p, q, r, u, v, s, rfl, hv1, hb1⟩; clear hv1; have T1 := Lib.hid (T0.out.trans (hb1.mono T0.out.size)); have T1a := Lib.hid (T1.out.alloc T1.out.size (.cells #[.int .i64 p, .int .i64 q, .int .i64 r] 45)); have T1b := Lib.hid (T1a.out.alloc T1a.out.size (.cells #[.int .i64 u, .int .i64 v, .int .i64 s] 45)); have N1 := Lib.hid (keepH (Joins.below_alloc1 _ (.cells #[.int .i64 u, .int .i64 v, .int .i64 s] 45)) (by simp) (heap_alloc_new w1 (.cells #[.int .i64 p, .int .i64 q, .int .i64 r] 45))); have M1 : Hid (((w1.alloc (.cells #[.int .i64 p, .int .i64 q, .int .i64 r] 45)).alloc (.cells #[.int .i64 u, .int .i64 v, .int .i64 s] 45)).heap[w1.heap.size + 1]? = some (.cells #[.int .i64 u, .int .i64 v, .int .i64 s] 45 (0, 0))) := Lib.hid (by simpa using heap_alloc_new (w1.alloc (.cells #[.int .i64 p, .int .i64 q, .int .i64 r] 45)) (.cells #[.int .i64 u, .int .i64 v, .int .i64 s] 45)); have c1 := keepC T1.out (by simp <;> omega) C1; have c1b := keepC T1b.out (by simp <;> omega) C1))
    go_ret
    exact ⟨rfl, HB.out.trans (T1b.out.mono (by simp <;> omega))⟩
  | true =>
    have HX := Lib.hid hx
    have HO := Lib.hid (ho.1 hx)
    have hm24 := HO.out.2.1
    have BX := isE_true hx
    have HT := Lib.hid (tri_grp BX.1)
    have HF2 := Lib.hid (fun k => mul_tri (grpB_true BX.1).1 x k (by have := HT.out.p1; omega))
    clear hx BX ho
    go_enter Tryd.func44, Tryd.ntmps44
    go_upto_region 5 with (first
      | (go_at_call 58; refine (iIn _ _ _ _ _ x HN.out hm (HI.out.below rfl T0.out)).mono ?_; unfold InPost; rw [HX.out]; rintro e w1 ⟨p, q, r, u, v, s, rfl, hv1, hb1⟩; obtain ⟨e1, e2, e3, e4, e5, e6⟩ := hv1 rfl; have HV1 := Lib.hid (And.intro e1 (And.intro e2 (And.intro e3 (And.intro e4 (And.intro e5 e6))))); clear e1 e2 e3 e4 e5 e6; clear hv1; have T1 := Lib.hid (T0.out.trans (hb1.mono T0.out.size)); have T1a := Lib.hid (T1.out.alloc T1.out.size (.cells #[.int .i64 p, .int .i64 q, .int .i64 r] 45)); have T1b := Lib.hid (T1a.out.alloc T1a.out.size (.cells #[.int .i64 u, .int .i64 v, .int .i64 s] 45)); have N1 := Lib.hid (keepH (Joins.below_alloc1 _ (.cells #[.int .i64 u, .int .i64 v, .int .i64 s] 45)) (by simp) (heap_alloc_new w1 (.cells #[.int .i64 p, .int .i64 q, .int .i64 r] 45))); have M1 : Hid (((w1.alloc (.cells #[.int .i64 p, .int .i64 q, .int .i64 r] 45)).alloc (.cells #[.int .i64 u, .int .i64 v, .int .i64 s] 45)).heap[w1.heap.size + 1]? = some (.cells #[.int .i64 u, .int .i64 v, .int .i64 s] 45 (0, 0))) := Lib.hid (by simpa using heap_alloc_new (w1.alloc (.cells #[.int .i64 p, .int .i64 q, .int .i64 r] 45)) (.cells #[.int .i64 u, .int .i64 v, .int .i64 s] 45)); have c1 := keepC T1.out (by simp <;> omega) C1; have c1b := keepC T1b.out (by simp <;> omega) C1))
    rw [← HV1.out.1, ← HV1.out.2.1, ← HV1.out.2.2.1] at HT
    have BU := Lib.hid (show (0 ≤ u ∧ u < p) ∧ (0 ≤ v ∧ v < q) ∧ (0 ≤ s ∧ s < r) by
      obtain ⟨e1, e2, e3, e4, e5, e6⟩ := HV1.out
      rw [e4, e5, e6, ← e1, ← e2, ← e3]
      exact ⟨emod_b HT.out.p1, emod_b HT.out.q1, emod_b HT.out.r1⟩)
    have HR : Hid (∀ k : Int, mulN l x k = u * k % p + p * (v * k % q) + p * q * (s * k % r)) := Lib.hid (fun k => by
      obtain ⟨e1, e2, e3, e4, e5, e6⟩ := HV1.out
      rw [HF2.out k, e4, e5, e6, e1, e2, e3])
    have KV := Lib.hid (Below.refl ((w1.alloc (.cells #[.int .i64 p, .int .i64 q, .int .i64 r] 45)).alloc (.cells #[.int .i64 u, .int .i64 v, .int .i64 s] 45)).heap.size ((w1.alloc (.cells #[.int .i64 p, .int .i64 q, .int .i64 r] 45)).alloc (.cells #[.int .i64 u, .int .i64 v, .int .i64 s] 45)))
    have TV := Lib.hid T1b.out
    generalize hV : ((w1.alloc (.cells #[.int .i64 p, .int .i64 q, .int .i64 r] 45)).alloc (.cells #[.int .i64 u, .int .i64 v, .int .i64 s] 45)) = V at *
    have HVS : Hid (V.heap.size = w1.heap.size + 1 + 1) := Lib.hid (by rw [← hV]; simp)
    clear hV
    obtain ⟨ta0, ta1, ta2, _, _, _⟩ := trip_cell N1.out
    obtain ⟨tb0, tb1, tb2, tf0, tf1, tf2⟩ := trip_cell M1.out
    go_wp2_with fail
    go_loopw [8, 9] (fun i pp wr => ∃ (j b : Nat), 1 ≤ j ∧ j ≤ m ∧ i = .int .i64 j ∧ pp = .pointer (some ⟨b, 0, none⟩) ∧ Hid (wr.heap[b]? = some (.cells #[.int .i64 (u * j % p), .int .i64 (v * j % q), .int .i64 (s * j % r)] 45 (0, 0))) ∧ Below V.heap.size V wr) (fun i _ _ => m - (intOf i).toNat)
    case atStart => exact ⟨1, V.heap.size, Nat.le_refl _, HO.out.1, rfl, rfl, Lib.hid (by
      rw [show ((1 : Nat) : Int) = 1 from rfl, Int.mul_one, Int.mul_one, Int.mul_one, Int.emod_eq_of_lt BU.out.1.1 BU.out.1.2, Int.emod_eq_of_lt BU.out.2.1.1 BU.out.2.1.2, Int.emod_eq_of_lt BU.out.2.2.1 BU.out.2.2.2]
      exact heap_alloc_new V _), (Below.refl _ _).alloc (Nat.le_refl _) _⟩
    case round =>
      obtain ⟨j, b, hj1, hj, rfl, rfl, HC, hbel⟩ := hrel
      obtain ⟨b0, b1, b2, bf0, bf1, bf2⟩ := trip_cell HC.out
      have HRJ := HR.out j
      obtain ⟨x1, x2⟩ := emod_b (a := u * j) HT.out.p1
      obtain ⟨y1, y2⟩ := emod_b (a := v * j) HT.out.q1
      obtain ⟨z1, z2⟩ := emod_b (a := s * j) HT.out.r1
      have SA := step_mod u j p
      have SB := step_mod v j q
      have SC := step_mod s j r
      rw [show ((j : Int) + 1) = ((j + 1 : Nat) : Int) by omega] at SA SB SC
      generalize u * (j : Int) % p = A at *
      generalize v * (j : Int) % q = B at *
      generalize s * (j : Int) % r = C at *
      have S3 := Lib.hid (And.intro SA (And.intro SB SC))
      have hbw : b < wr.heap.size := (Array.getElem?_eq_some_iff.1 HC.out).1
      clear SA SB SC
      by_cases hlt : j < m
      · have hnz : ¬ (A = 0 ∧ B = 0 ∧ C = 0) := fun ⟨ea, eb, ec⟩ => by
          rw [ea, eb, ec] at HRJ
          exact HO.out.2.2.2 j hj1 hlt (by rw [HRJ]; simp)
        clear HRJ
        have HNE : ∀ W, (binOp .neq 45 (tV A B C) (tV 0 0 0)).run Tryd.prog W = .ok (.bool true) W := fun W => by
          rw [triNe]
          have : (!(A == 0 && (B == 0 && C == 0))) = true := by
            by_cases ha : A = 0 <;> by_cases hb : B = 0 <;> by_cases hc : C = 0 <;> simp [ha, hb, hc]
            exact hnz ⟨ha, hb, hc⟩
          rw [this]
        have HEG := Tryd.eqGuardType45
        clear hnz
        have CH := Lib.hid (hbel.alloc hbel.size (.cells #[.int .i64 A, .int .i64 B, .int .i64 C] 45))
        obtain ⟨qa0, qa1, qa2, qaf0, qaf1, qaf2⟩ := trip_cell (keepH CH.out (by rw [HVS.out]; omega) N1.out)
        obtain ⟨qb0, qb1, qb2, qbf0, qbf1, qbf2⟩ := trip_cell (keepH CH.out (by rw [HVS.out]; omega) M1.out)
        have NB := Lib.hid (heap_alloc_new wr (.cells #[.int .i64 A, .int .i64 B, .int .i64 C] 45))
        obtain ⟨k0, k1, k2, kf0, kf1, kf2⟩ := trip_cell NB.out
        go_wp2_with (go_at_call 59; refine (iAdd _ _ _ _ _ _ _ _ _ _ HT.out ⟨x1, x2⟩ ⟨y1, y2⟩ ⟨z1, z2⟩ BU.out.1 BU.out.2.1 BU.out.2.2).mono ?_; rintro e w3 ⟨rfl, hb3⟩; obtain ⟨l0, l1, l2, lf0, lf1, lf2⟩ := trip_cell (keepH hb3 (by simp) NB.out); have H3 := Lib.hid (keepH hb3 (by simp) NB.out))
        go_roundw
        case rel => exact ⟨j + 1, wr.heap.size, by omega, by omega, by go_num, rfl, Lib.hid (by
          rw [← S3.out.1, ← S3.out.2.1, ← S3.out.2.2]; exact set_trip H3.out), below_set3 (CH.out.trans (hb3.mono CH.out.size)) hbel.size⟩
        case measure => simp [intOf]; omega
      · obtain rfl : j = m := by omega
        have hz : A = 0 ∧ B = 0 ∧ C = 0 := by
          rw [HO.out.2.2.1] at HRJ
          have g1 := Int.mul_nonneg (show 0 ≤ p by have := HT.out.p1; omega) y1
          have g2 := Int.mul_nonneg (show 0 ≤ p * q by have := HT.out.pq1; omega) z1
          have hA : A = 0 := by omega
          have hpB : p * B = 0 := by omega
          have hqC : p * q * C = 0 := by omega
          refine ⟨hA, ?_, ?_⟩
          · rcases Int.mul_eq_zero.1 hpB with h | h
            · have := HT.out.p1; omega
            · exact h
          · rcases Int.mul_eq_zero.1 hqC with h | h
            · have := HT.out.pq1; omega
            · exact h
        have HNE : ∀ W, (binOp .neq 45 (tV A B C) (tV 0 0 0)).run Tryd.prog W = .ok (.bool false) W := fun W => by
          rw [triNe, hz.1, hz.2.1, hz.2.2]; rfl
        have HEG := Tryd.eqGuardType45
        clear hz HRJ
        go_wp2
        go_ret
        exact ⟨rfl, HB.out.trans ((TV.out.trans (hbel.mono TV.out.size)).mono (by simp <;> omega))⟩
end Go.Proofs.YtaacofbmbpkeoaaDoor
