/- The contracts of the program's own functions on groups: sums, multiples, negatives and orders of elements. -/
import Derived.Test.YticgoodmfjjggaaGreatDoorGrpIn
import Derived.Deep.RegionHeld3
import Derived.Deep.DeepCutAuto
namespace Go.Proofs.YticgoodmfjjggaaGreatDoor
open Go.RowKit
set_option maxRecDepth 1000000
theorem ord0 {l : List Int} : (0 < l.length → l.getD 0 0 = l.getD 0 1) ∧ (l.length ≤ 0 → l.getD 0 1 = 1) := by
  cases l <;> simp
theorem ord1 {l : List Int} : (1 < l.length → l.getD 1 0 = l.getD 1 1) ∧ (l.length ≤ 1 → l.getD 1 1 = 1) := by
  match l with
  | [] => simp
  | [_] => simp
  | _ :: _ :: _ => simp
theorem ord2 {l : List Int} : (2 < l.length → l.getD 2 0 = l.getD 2 1) ∧ (l.length ≤ 2 → l.getD 2 1 = 1) := by
  match l with
  | [] => simp
  | [_] => simp
  | [_, _] => simp
  | _ :: _ :: _ :: _ => simp
theorem PK_1 {l : List Int} (h : 1 ≤ l.length) : PK l 1 = l.getD 0 1 := by
  match l, h with
  | _ :: _, _ => simp [PK, prodI]
theorem PK_2 {l : List Int} (h : 2 ≤ l.length) : PK l 2 = l.getD 0 1 * l.getD 1 1 := by
  match l, h with
  | _ :: _ :: _, _ => simp [PK, prodI]
/-- A value by its three places. -/
theorem val_tri {l : List Int} (hl : l.length ≤ 3) (f : Nat → Int) (f0 f1 f2 : Int) (h0 : 0 < l.length → f 0 = f0) (h1 : 1 < l.length → f 1 = f1) (h2 : 2 < l.length → f 2 = f2)
    (z0 : l.length ≤ 0 → f0 = 0) (z1 : l.length ≤ 1 → f1 = 0) (z2 : l.length ≤ 2 → f2 = 0) : valK l f l.length = f0 + l.getD 0 1 * f1 + l.getD 0 1 * l.getD 1 1 * f2 := by
  match l, hl with
  | [], _ => simp at *; simp [valK, z0, z1, z2]
  | [a], _ => simp at *; simp [valK, PK, prodI, h0, z1, z2]
  | [a, b], _ => simp at *; simp [valK, PK, prodI, h0, h1, z2, Int.mul_comm]
  | [a, b, c], _ => simp at *; simp [valK, PK, prodI, h0, h1, h2, Int.mul_comm]
  | _ :: _ :: _ :: _ :: _, h => simp at h
theorem tdig0 {l : List Int} (x : Int) (h : 0 < l.length) : dig l x 0 = x % l.getD 0 1 := by
  unfold dig; rw [PK_zero, Int.ediv_one, ord0.1 h]
theorem tdig1 {l : List Int} (x : Int) (h : 1 < l.length) : dig l x 1 = x / l.getD 0 1 % l.getD 1 1 := by
  unfold dig; rw [PK_1 (by omega), ord1.1 h]
theorem tdig2 {l : List Int} (x : Int) (h : 2 < l.length) (hp : 0 ≤ l.getD 0 1) : dig l x 2 = x / l.getD 0 1 / l.getD 1 1 % l.getD 2 1 := by
  unfold dig; rw [PK_2 (by omega), ord2.1 h, Int.ediv_ediv_of_nonneg hp]
theorem one_mod {c x : Int} (h : c = 1) : x % c = 0 := by rw [h, Int.emod_one]
theorem add_tri {l : List Int} (hl : l.length ≤ 3) (x y : Int) (hp : 0 ≤ l.getD 0 1) : addN l x y =
    (x % l.getD 0 1 + y % l.getD 0 1) % l.getD 0 1 + l.getD 0 1 * ((x / l.getD 0 1 % l.getD 1 1 + y / l.getD 0 1 % l.getD 1 1) % l.getD 1 1) + l.getD 0 1 * l.getD 1 1 * ((x / l.getD 0 1 / l.getD 1 1 % l.getD 2 1 + y / l.getD 0 1 / l.getD 1 1 % l.getD 2 1) % l.getD 2 1) :=
  val_tri hl _ _ _ _ (fun h => by rw [sdig_eq, tdig0 x h, tdig0 y h, ord0.1 h]) (fun h => by rw [sdig_eq, tdig1 x h, tdig1 y h, ord1.1 h]) (fun h => by rw [sdig_eq, tdig2 x h hp, tdig2 y h hp, ord2.1 h])
    (fun h => one_mod (ord0.2 h)) (fun h => one_mod (ord1.2 h)) (fun h => one_mod (ord2.2 h))
theorem mul_tri {l : List Int} (hl : l.length ≤ 3) (x k : Int) (hp : 0 ≤ l.getD 0 1) : mulN l x k =
    x % l.getD 0 1 * k % l.getD 0 1 + l.getD 0 1 * (x / l.getD 0 1 % l.getD 1 1 * k % l.getD 1 1) + l.getD 0 1 * l.getD 1 1 * (x / l.getD 0 1 / l.getD 1 1 % l.getD 2 1 * k % l.getD 2 1) :=
  val_tri hl _ _ _ _ (fun h => by unfold mulF; rw [tdig0 x h, ord0.1 h]) (fun h => by unfold mulF; rw [tdig1 x h, ord1.1 h]) (fun h => by unfold mulF; rw [tdig2 x h hp, ord2.1 h])
    (fun h => one_mod (ord0.2 h)) (fun h => one_mod (ord1.2 h)) (fun h => one_mod (ord2.2 h))
theorem emod_b {a c : Int} (h : 1 ≤ c) : 0 ≤ a % c ∧ a % c < c := ⟨Int.emod_nonneg _ (by omega), Int.emod_lt_of_pos _ (by omega)⟩
/-- What placesIn answers. -/
def InPost (l : List Int) (x : Int) (w : World) (e : Ending) (w' : World) : Prop :=
  ∃ p q r u v s, e = .returned (.tuple #[tV p q r, tV u v s, .bool (isE l x)]) ∧ (isE l x = true → p = l.getD 0 1 ∧ q = l.getD 1 1 ∧ r = l.getD 2 1 ∧ u = x % l.getD 0 1 ∧ v = x / l.getD 0 1 % l.getD 1 1 ∧ s = x / l.getD 0 1 / l.getD 1 1 % l.getD 2 1) ∧ Below w.heap.size w w'
theorem iIn (w : World) (a : Option Addr) (l : List Int) (n cap : Nat) (x : Int) (hn : n = l.length) (hm : n ≤ 9223372036854775807) (hi : Ints w a l) :
    Calls Tryz.prog 66 #[.agg #[.slice a n cap], .int .i64 x] w (InPost l x w) := by
  unfold InPost
  cases hx : isE l x with
  | false => exact (iIn_no w a l n cap x hn hm hi hx).mono fun e w' ⟨he, hb⟩ => ⟨0, 0, 0, 0, 0, 0, he, (fun h => by cases h), hb⟩
  | true => exact (iIn_yes w a l n cap x hn hm hi hx).mono fun e w' ⟨he, hb⟩ => ⟨_, _, _, _, _, _, he, fun _ => ⟨rfl, rfl, rfl, rfl, rfl, rfl⟩, hb⟩
set_option maxHeartbeats 400000 in
theorem iAddE (w : World) (a : Option Addr) (l : List Int) (n cap : Nat) (x y : Int) (hn : n = l.length) (hm : n ≤ 9223372036854775807) (hi : Ints w a l) :
    Calls Tryz.prog 7 #[.agg #[.slice a n cap], .int .i64 x, .int .i64 y] w fun e w' => e = .returned (.int .i64 (addE l x y)) ∧ Below w.heap.size w w' := by
  have HI := Lib.hid (ints_alloc hi (.cells #[.slice a n cap] 26))
  have HN := Lib.hid hn
  have C1 := newC w (.slice a n cap) 26 (n := w.heap.size) rfl
  have HB := Lib.hid (Joins.below_alloc1 w (.cells #[.slice a n cap] 26))
  have T0 := Lib.hid (Below.refl (w.alloc (.cells #[.slice a n cap] 26)).heap.size (w.alloc (.cells #[.slice a n cap] 26)))
  clear hi hn
  cases hx : isE l x with
  | false =>
    have HX := Lib.hid hx
    rw [show addE l x y = -1 by unfold addE; rw [if_neg (by simp [hx])]]
    clear hx
    obtain ⟨by', HY⟩ : ∃ b, Hid (isE l y = b) := ⟨_, Lib.hid rfl⟩
    go_enter Tryz.func7, Tryz.ntmps7
    go_wp2_with (first
      | (go_at_call 66; refine (iIn _ _ _ _ _ y HN.out hm (HI.out.below rfl T1b.out)).mono ?_; unfold InPost; rw [HY.out]; rintro e w2 ⟨p2, q2, r2, u2, v2, s2, rfl, hv2, hb2⟩; clear hv2; have T2 := Lib.hid (T1b.out.trans (hb2.mono T1b.out.size)); have T2a := Lib.hid (T2.out.alloc T2.out.size (.cells #[.int .i64 p2, .int .i64 q2, .int .i64 r2] 58)); have T2b := Lib.hid (T2a.out.alloc T2a.out.size (.cells #[.int .i64 u2, .int .i64 v2, .int .i64 s2] 58)); have N2 := Lib.hid (keepH (Joins.below_alloc1 _ (.cells #[.int .i64 u2, .int .i64 v2, .int .i64 s2] 58)) (by simp) (heap_alloc_new w2 (.cells #[.int .i64 p2, .int .i64 q2, .int .i64 r2] 58))); have M2 : Hid (((w2.alloc (.cells #[.int .i64 p2, .int .i64 q2, .int .i64 r2] 58)).alloc (.cells #[.int .i64 u2, .int .i64 v2, .int .i64 s2] 58)).heap[w2.heap.size + 1]? = some (.cells #[.int .i64 u2, .int .i64 v2, .int .i64 s2] 58 (0, 0))) := Lib.hid (by simpa using heap_alloc_new (w2.alloc (.cells #[.int .i64 p2, .int .i64 q2, .int .i64 r2] 58)) (.cells #[.int .i64 u2, .int .i64 v2, .int .i64 s2] 58)); have c2 := keepC T2.out (by simp <;> omega) C1; have c2b := keepC T2b.out (by simp <;> omega) C1)
      | (go_at_call 66; refine (iIn _ _ _ _ _ x HN.out hm (HI.out.below rfl T0.out)).mono ?_; unfold InPost; rw [HX.out]; rintro e w1 ⟨p, q, r, u, v, s, rfl, hv1, hb1⟩; clear hv1; have T1 := Lib.hid (T0.out.trans (hb1.mono T0.out.size)); have T1a := Lib.hid (T1.out.alloc T1.out.size (.cells #[.int .i64 p, .int .i64 q, .int .i64 r] 58)); have T1b := Lib.hid (T1a.out.alloc T1a.out.size (.cells #[.int .i64 u, .int .i64 v, .int .i64 s] 58)); have N1 := Lib.hid (keepH (Joins.below_alloc1 _ (.cells #[.int .i64 u, .int .i64 v, .int .i64 s] 58)) (by simp) (heap_alloc_new w1 (.cells #[.int .i64 p, .int .i64 q, .int .i64 r] 58))); have M1 : Hid (((w1.alloc (.cells #[.int .i64 p, .int .i64 q, .int .i64 r] 58)).alloc (.cells #[.int .i64 u, .int .i64 v, .int .i64 s] 58)).heap[w1.heap.size + 1]? = some (.cells #[.int .i64 u, .int .i64 v, .int .i64 s] 58 (0, 0))) := Lib.hid (by simpa using heap_alloc_new (w1.alloc (.cells #[.int .i64 p, .int .i64 q, .int .i64 r] 58)) (.cells #[.int .i64 u, .int .i64 v, .int .i64 s] 58)); have c1 := keepC T1.out (by simp <;> omega) C1; have c1b := keepC T1b.out (by simp <;> omega) C1))
    go_ret
    exact ⟨rfl, HB.out.trans (T2b.out.mono (by simp <;> omega))⟩
  | true =>
    have HX := Lib.hid hx
    cases hy : isE l y with
    | false =>
      have HY := Lib.hid hy
      rw [show addE l x y = -1 by unfold addE; rw [if_pos hx, if_neg (by simp [hy])]]
      clear hx hy
      go_enter Tryz.func7, Tryz.ntmps7
      go_wp2_with (first
        | (go_at_call 66; refine (iIn _ _ _ _ _ y HN.out hm (HI.out.below rfl T1b.out)).mono ?_; unfold InPost; rw [HY.out]; rintro e w2 ⟨p2, q2, r2, u2, v2, s2, rfl, hv2, hb2⟩; clear hv2; have T2 := Lib.hid (T1b.out.trans (hb2.mono T1b.out.size)); have T2a := Lib.hid (T2.out.alloc T2.out.size (.cells #[.int .i64 p2, .int .i64 q2, .int .i64 r2] 58)); have T2b := Lib.hid (T2a.out.alloc T2a.out.size (.cells #[.int .i64 u2, .int .i64 v2, .int .i64 s2] 58)); have N2 := Lib.hid (keepH (Joins.below_alloc1 _ (.cells #[.int .i64 u2, .int .i64 v2, .int .i64 s2] 58)) (by simp) (heap_alloc_new w2 (.cells #[.int .i64 p2, .int .i64 q2, .int .i64 r2] 58))); have M2 : Hid (((w2.alloc (.cells #[.int .i64 p2, .int .i64 q2, .int .i64 r2] 58)).alloc (.cells #[.int .i64 u2, .int .i64 v2, .int .i64 s2] 58)).heap[w2.heap.size + 1]? = some (.cells #[.int .i64 u2, .int .i64 v2, .int .i64 s2] 58 (0, 0))) := Lib.hid (by simpa using heap_alloc_new (w2.alloc (.cells #[.int .i64 p2, .int .i64 q2, .int .i64 r2] 58)) (.cells #[.int .i64 u2, .int .i64 v2, .int .i64 s2] 58)); have c2 := keepC T2.out (by simp <;> omega) C1; have c2b := keepC T2b.out (by simp <;> omega) C1)
        | (go_at_call 66; refine (iIn _ _ _ _ _ x HN.out hm (HI.out.below rfl T0.out)).mono ?_; unfold InPost; rw [HX.out]; rintro e w1 ⟨p, q, r, u, v, s, rfl, hv1, hb1⟩; clear hv1; have T1 := Lib.hid (T0.out.trans (hb1.mono T0.out.size)); have T1a := Lib.hid (T1.out.alloc T1.out.size (.cells #[.int .i64 p, .int .i64 q, .int .i64 r] 58)); have T1b := Lib.hid (T1a.out.alloc T1a.out.size (.cells #[.int .i64 u, .int .i64 v, .int .i64 s] 58)); have N1 := Lib.hid (keepH (Joins.below_alloc1 _ (.cells #[.int .i64 u, .int .i64 v, .int .i64 s] 58)) (by simp) (heap_alloc_new w1 (.cells #[.int .i64 p, .int .i64 q, .int .i64 r] 58))); have M1 : Hid (((w1.alloc (.cells #[.int .i64 p, .int .i64 q, .int .i64 r] 58)).alloc (.cells #[.int .i64 u, .int .i64 v, .int .i64 s] 58)).heap[w1.heap.size + 1]? = some (.cells #[.int .i64 u, .int .i64 v, .int .i64 s] 58 (0, 0))) := Lib.hid (by simpa using heap_alloc_new (w1.alloc (.cells #[.int .i64 p, .int .i64 q, .int .i64 r] 58)) (.cells #[.int .i64 u, .int .i64 v, .int .i64 s] 58)); have c1 := keepC T1.out (by simp <;> omega) C1; have c1b := keepC T1b.out (by simp <;> omega) C1))
      go_ret
      exact ⟨rfl, HB.out.trans (T2b.out.mono (by simp <;> omega))⟩
    | true =>
      have HY := Lib.hid hy
      have BX := isE_true hx
      have HT := Lib.hid (tri_grp BX.1)
      have HF : Hid (addE l x y = addN l x y) := Lib.hid (by unfold addE; rw [if_pos hx, if_pos hy])
      have HF2 := Lib.hid (add_tri (grpB_true BX.1).1 x y (by have := HT.out.p1; omega))
      clear hx hy BX
      go_enter Tryz.func7, Tryz.ntmps7
      go_wp2_with (first
        | (go_at_call 66; refine (iIn _ _ _ _ _ y HN.out hm (HI.out.below rfl T1b.out)).mono ?_; unfold InPost; rw [HY.out]; rintro e w2 ⟨p2, q2, r2, u2, v2, s2, rfl, hv2, hb2⟩; obtain ⟨e1, e2, e3, e4, e5, e6⟩ := hv2 rfl; have HV2 := Lib.hid (And.intro e1 (And.intro e2 (And.intro e3 (And.intro e4 (And.intro e5 e6))))); clear e1 e2 e3 e4 e5 e6; clear hv2; have T2 := Lib.hid (T1b.out.trans (hb2.mono T1b.out.size)); have T2a := Lib.hid (T2.out.alloc T2.out.size (.cells #[.int .i64 p2, .int .i64 q2, .int .i64 r2] 58)); have T2b := Lib.hid (T2a.out.alloc T2a.out.size (.cells #[.int .i64 u2, .int .i64 v2, .int .i64 s2] 58)); have N2 := Lib.hid (keepH (Joins.below_alloc1 _ (.cells #[.int .i64 u2, .int .i64 v2, .int .i64 s2] 58)) (by simp) (heap_alloc_new w2 (.cells #[.int .i64 p2, .int .i64 q2, .int .i64 r2] 58))); have M2 : Hid (((w2.alloc (.cells #[.int .i64 p2, .int .i64 q2, .int .i64 r2] 58)).alloc (.cells #[.int .i64 u2, .int .i64 v2, .int .i64 s2] 58)).heap[w2.heap.size + 1]? = some (.cells #[.int .i64 u2, .int .i64 v2, .int .i64 s2] 58 (0, 0))) := Lib.hid (by simpa using heap_alloc_new (w2.alloc (.cells #[.int .i64 p2, .int .i64 q2, .int .i64 r2] 58)) (.cells #[.int .i64 u2, .int .i64 v2, .int .i64 s2] 58)); have c2 := keepC T2.out (by simp <;> omega) C1; have c2b := keepC T2b.out (by simp <;> omega) C1)
        | (go_at_call 66; refine (iIn _ _ _ _ _ x HN.out hm (HI.out.below rfl T0.out)).mono ?_; unfold InPost; rw [HX.out]; rintro e w1 ⟨p, q, r, u, v, s, rfl, hv1, hb1⟩; obtain ⟨e1, e2, e3, e4, e5, e6⟩ := hv1 rfl; have HV1 := Lib.hid (And.intro e1 (And.intro e2 (And.intro e3 (And.intro e4 (And.intro e5 e6))))); clear e1 e2 e3 e4 e5 e6; clear hv1; have T1 := Lib.hid (T0.out.trans (hb1.mono T0.out.size)); have T1a := Lib.hid (T1.out.alloc T1.out.size (.cells #[.int .i64 p, .int .i64 q, .int .i64 r] 58)); have T1b := Lib.hid (T1a.out.alloc T1a.out.size (.cells #[.int .i64 u, .int .i64 v, .int .i64 s] 58)); have N1 := Lib.hid (keepH (Joins.below_alloc1 _ (.cells #[.int .i64 u, .int .i64 v, .int .i64 s] 58)) (by simp) (heap_alloc_new w1 (.cells #[.int .i64 p, .int .i64 q, .int .i64 r] 58))); have M1 : Hid (((w1.alloc (.cells #[.int .i64 p, .int .i64 q, .int .i64 r] 58)).alloc (.cells #[.int .i64 u, .int .i64 v, .int .i64 s] 58)).heap[w1.heap.size + 1]? = some (.cells #[.int .i64 u, .int .i64 v, .int .i64 s] 58 (0, 0))) := Lib.hid (by simpa using heap_alloc_new (w1.alloc (.cells #[.int .i64 p, .int .i64 q, .int .i64 r] 58)) (.cells #[.int .i64 u, .int .i64 v, .int .i64 s] 58)); have c1 := keepC T1.out (by simp <;> omega) C1; have c1b := keepC T1b.out (by simp <;> omega) C1))
      have E1 : p2 = p := HV2.out.1.trans HV1.out.1.symm
      have E2 : q2 = q := HV2.out.2.1.trans HV1.out.2.1.symm
      have E3 : r2 = r := HV2.out.2.2.1.trans HV1.out.2.2.1.symm
      subst E1 E2 E3
      have HR : Hid (addE l x y = (u + u2) % p2 + p2 * ((v + v2) % q2) + p2 * q2 * ((s + s2) % r2)) := Lib.hid (by
        obtain ⟨e1, e2, e3, e4, e5, e6⟩ := HV1.out
        obtain ⟨_, _, _, f4, f5, f6⟩ := HV2.out
        rw [HF.out, HF2.out, e4, e5, e6, f4, f5, f6, e1, e2, e3])
      rw [← HV1.out.1, ← HV1.out.2.1, ← HV1.out.2.2.1] at HT
      have BU := Lib.hid (show (0 ≤ u ∧ u < p2) ∧ (0 ≤ v ∧ v < q2) ∧ (0 ≤ s ∧ s < r2) by
        obtain ⟨e1, e2, e3, e4, e5, e6⟩ := HV1.out
        rw [e4, e5, e6, ← e1, ← e2, ← e3]
        exact ⟨emod_b HT.out.p1, emod_b HT.out.q1, emod_b HT.out.r1⟩)
      have BV := Lib.hid (show (0 ≤ u2 ∧ u2 < p2) ∧ (0 ≤ v2 ∧ v2 < q2) ∧ (0 ≤ s2 ∧ s2 < r2) by
        obtain ⟨e1, e2, e3, e4, e5, e6⟩ := HV2.out
        rw [e4, e5, e6, ← e1, ← e2, ← e3]
        exact ⟨emod_b HT.out.p1, emod_b HT.out.q1, emod_b HT.out.r1⟩)
      have K1 := Lib.hid ((hb2.alloc hb2.size (.cells #[.int .i64 p2, .int .i64 q2, .int .i64 r2] 58)).alloc (Nat.le_trans hb2.size (by simp)) (.cells #[.int .i64 u2, .int .i64 v2, .int .i64 s2] 58))
      have TD := Lib.hid T2b.out.drew
      have KD := Lib.hid K1.out.drew
      obtain ⟨ta0, ta1, ta2, taf0, taf1, taf2⟩ := trip_cell (keepH K1.out (by simp <;> omega) N1.out)
      obtain ⟨tb0, tb1, tb2, tbf0, tbf1, tbf2⟩ := trip_cell (keepH K1.out (by simp <;> omega) M1.out)
      obtain ⟨tc0, tc1, tc2, tcf0, tcf1, tcf2⟩ := trip_cell M2.out
      have L0 := Lib.hid (Below.drew (Below.refl ((w2.alloc (.cells #[.int .i64 p2, .int .i64 q2, .int .i64 r2] 58)).alloc (.cells #[.int .i64 u2, .int .i64 v2, .int .i64 s2] 58)).heap.size ((w2.alloc (.cells #[.int .i64 p2, .int .i64 q2, .int .i64 r2] 58)).alloc (.cells #[.int .i64 u2, .int .i64 v2, .int .i64 s2] 58))))
      go_region_held3 (fun W => W.cell? ⟨w1.heap.size, 0, none⟩ = some (.int .i64 p2) ∧ W.cell? ⟨w1.heap.size, 1, none⟩ = some (.int .i64 q2) ∧ W.cell? ⟨w1.heap.size, 2, none⟩ = some (.int .i64 r2) ∧ W.cell? ⟨w1.heap.size + 1, 0, none⟩ = some (.int .i64 u) ∧ W.cell? ⟨w1.heap.size + 1, 1, none⟩ = some (.int .i64 v) ∧ W.cell? ⟨w1.heap.size + 1, 2, none⟩ = some (.int .i64 s) ∧ W.cell? ⟨w2.heap.size + 1, 0, none⟩ = some (.int .i64 u2) ∧ W.cell? ⟨w2.heap.size + 1, 1, none⟩ = some (.int .i64 v2) ∧ W.cell? ⟨w2.heap.size + 1, 2, none⟩ = some (.int .i64 s2))
        (first | exact ⟨tg0, tg1, tg2, th0, th1, th2, ti0, ti1, ti2⟩ | exact ⟨td0, td1, td2, te0, te1, te2, tf0, tf1, tf2⟩ | exact ⟨ta0, ta1, ta2, tb0, tb1, tb2, tc0, tc1, tc2⟩)
        (first
        | (go_at_call 67; refine (iElement _ _ _ _ _ _ _ HT.out (emod_b HT.out.p1) (emod_b HT.out.q1) (emod_b HT.out.r1)).mono ?_; rintro e w4 ⟨rfl, hb4⟩; have T4 := Lib.hid (T3.out.trans (hb4.mono T3.out.size)); have KE := Lib.hid (K3.out.trans (hb4.mono K3.out.size)); have LE := Lib.hid (L3.out.trans (hb4.mono L3.out.size)); obtain ⟨tg0, tg1, tg2, tgf0, tgf1, tgf2⟩ := trip_cell (keepH KE.out (by simp <;> omega) N1.out); obtain ⟨th0, th1, th2, thf0, thf1, thf2⟩ := trip_cell (keepH KE.out (by simp <;> omega) M1.out); obtain ⟨ti0, ti1, ti2, tif0, tif1, tif2⟩ := trip_cell (keepH LE.out (by simp <;> omega) M2.out))
        | (go_at_call 68; refine (iAdd _ _ _ _ _ _ _ _ _ _ HT.out BU.out.1 BU.out.2.1 BU.out.2.2 BV.out.1 BV.out.2.1 BV.out.2.2).mono ?_; rintro e w3 ⟨rfl, hb3⟩; have T3 := Lib.hid (TD.out.trans (hb3.mono TD.out.size)); have K3 := Lib.hid (KD.out.trans (hb3.mono KD.out.size)); have L3 := Lib.hid (L0.out.trans (hb3.mono L0.out.size)); obtain ⟨td0, td1, td2, tdf0, tdf1, tdf2⟩ := trip_cell (keepH K3.out (by simp <;> omega) N1.out); obtain ⟨te0, te1, te2, tef0, tef1, tef2⟩ := trip_cell (keepH K3.out (by simp <;> omega) M1.out); obtain ⟨tf0, tf1, tf2, tff0, tff1, tff2⟩ := trip_cell (keepH L3.out (by simp <;> omega) M2.out)))
      go_wp2
      go_ret
      exact ⟨by rw [HR.out]; rfl, HB.out.trans (T4.out.mono (by simp <;> omega))⟩
end Go.Proofs.YticgoodmfjjggaaGreatDoor
