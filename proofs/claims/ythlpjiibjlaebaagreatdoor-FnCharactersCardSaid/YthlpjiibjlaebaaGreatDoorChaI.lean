/- The program's own characters: the character with a number, its values, its kernel, the annihilator of a set. -/
import Derived.Test.YthlpjiibjlaebaaGreatDoorMGAJ
import Derived.Test.YthlpjiibjlaebaaGreatDoorChaSpec
import Derived.Test.YthlpjiibjlaebaaGreatDoorMGAH
import Derived.Deep.RegionHeld3
import Derived.Deep.DeepCutAuto
namespace Go.Proofs.YthlpjiibjlaebaaGreatDoor
open Go.RowKit
set_option maxRecDepth 1000000
theorem ch_tri {l : List Int} (hg : grpB l = true) (k x : Int) : chN l k x =
    (k % l.getD 0 1 * (x % l.getD 0 1) * (expN l / l.getD 0 1) + k / l.getD 0 1 % l.getD 1 1 * (x / l.getD 0 1 % l.getD 1 1) * (expN l / l.getD 1 1) + k / l.getD 0 1 / l.getD 1 1 % l.getD 2 1 * (x / l.getD 0 1 / l.getD 1 1 % l.getD 2 1) * (expN l / l.getD 2 1)) % expN l := by
  have hl := (grpB_true hg).1
  have hp : 0 ≤ l.getD 0 1 := by have := (tri_grp hg).p1; omega
  have z0 : l.length ≤ 0 → ∀ y : Int, y % l.getD 0 1 = 0 := fun h y => one_mod (ord0.2 h)
  have z1 : l.length ≤ 1 → ∀ y : Int, y % l.getD 1 1 = 0 := fun h y => one_mod (ord1.2 h)
  have z2 : l.length ≤ 2 → ∀ y : Int, y % l.getD 2 1 = 0 := fun h y => one_mod (ord2.2 h)
  unfold chN
  congr 1
  have hc : l.length = 0 ∨ l.length = 1 ∨ l.length = 2 ∨ l.length = 3 := by omega
  rcases hc with h | h | h | h
  · rw [h]
    simp only [chK, z0 (by omega), z1 (by omega), z2 (by omega), Int.zero_mul, Int.add_zero]
  · rw [h]
    simp only [chK, z1 (by omega), z2 (by omega), Int.zero_mul, Int.add_zero, Int.zero_add, tdig0 _ (show 0 < l.length by omega), ord0.1 (show 0 < l.length by omega)]
  · rw [h]
    simp only [chK, z2 (by omega), Int.zero_mul, Int.add_zero, Int.zero_add, tdig0 _ (show 0 < l.length by omega), ord0.1 (show 0 < l.length by omega), tdig1 _ (show 1 < l.length by omega), ord1.1 (show 1 < l.length by omega)]
  · rw [h]
    simp only [chK, Int.zero_add, tdig0 _ (show 0 < l.length by omega), ord0.1 (show 0 < l.length by omega), tdig1 _ (show 1 < l.length by omega), ord1.1 (show 1 < l.length by omega), tdig2 _ (show 2 < l.length by omega) hp, ord2.1 (show 2 < l.length by omega)]
/-- A character as a value: the exponent, and the function with what it captured. -/
def chrF (bo bp be : Nat) : Value := .func (.func 90) #[] #[.pointer (some ⟨bo, 0, none⟩), .pointer (some ⟨bp, 0, none⟩), .pointer (some ⟨be, 0, none⟩)]
/-- What it captured stands in the world. -/
structure ChrAt (W : World) (l : List Int) (k : Int) (bo bp be : Nat) : Prop where
  o : W.heap[bo]? = some (.cells #[.int .i64 (l.getD 0 1), .int .i64 (l.getD 1 1), .int .i64 (l.getD 2 1)] 46 (0, 0))
  p : W.heap[bp]? = some (.cells #[.int .i64 (k % l.getD 0 1), .int .i64 (k / l.getD 0 1 % l.getD 1 1), .int .i64 (k / l.getD 0 1 / l.getD 1 1 % l.getD 2 1)] 46 (0, 0))
  e : W.heap[be]? = some (.cells #[.int .i64 (expN l)] 3 (0, 0))
theorem ChrAt.below {W W' : World} {l : List Int} {k : Int} {bo bp be : Nat} (h : ChrAt W l k bo bp be) (hb : Below W.heap.size W W') : ChrAt W' l k bo bp be :=
  ⟨keepH hb (Array.getElem?_eq_some_iff.1 h.o).1 h.o, keepH hb (Array.getElem?_eq_some_iff.1 h.p).1 h.p, keepH hb (Array.getElem?_eq_some_iff.1 h.e).1 h.e⟩
theorem one_cell7 {w : World} {B : Nat} {x : Value} {T : TypeId} (h : w.heap[B]? = some (.cells #[x] T (0, 0))) : w.cell? ⟨B, 0, none⟩ = some x := by simp [World.cell?, h]
theorem two_cell {w : World} {B : Nat} {x y : Value} {T : TypeId} (h : w.heap[B]? = some (.cells #[x, y] T (0, 0))) : w.cell? ⟨B, 0, none⟩ = some x ∧ w.cell? ⟨B, 1, none⟩ = some y ∧ w.frozen? ⟨B, 0, none⟩ = false ∧ w.frozen? ⟨B, 1, none⟩ = false :=
  ⟨by simp [World.cell?, h], by simp [World.cell?, h], by simp [World.frozen?, h], by simp [World.frozen?, h]⟩
set_option maxHeartbeats 2000000 in
theorem iVal {l : List Int} (hg : grpB l = true) (w : World) (k x : Int) (hx0 : 0 ≤ x) (hx : x ≤ 23) {bo bp be : Nat} (hc : ChrAt w l k bo bp be) :
    Calls Tryz.prog 90 #[.int .i64 x, .pointer (some ⟨bo, 0, none⟩), .pointer (some ⟨bp, 0, none⟩), .pointer (some ⟨be, 0, none⟩)] w fun e w' => e = .returned (.int .i64 (chN l k x)) ∧ Below w.heap.size w w' := by
  have HC := Lib.hid hc
  have HT := Lib.hid (tri_grp hg)
  have HV := Lib.hid (ch_tri hg k x)
  have he := expN_le hg
  obtain ⟨E, EE⟩ : ∃ E, Hid (expN l = E) := ⟨_, Lib.hid rfl⟩
  obtain ⟨p, EP⟩ : ∃ p, Hid (l.getD 0 1 = p) := ⟨_, Lib.hid rfl⟩
  obtain ⟨q, EQ⟩ : ∃ q, Hid (l.getD 1 1 = q) := ⟨_, Lib.hid rfl⟩
  obtain ⟨r, ER⟩ : ∃ r, Hid (l.getD 2 1 = r) := ⟨_, Lib.hid rfl⟩
  have HO := Lib.hid hc.o
  have HP := Lib.hid hc.p
  have HE := Lib.hid hc.e
  rw [EP.out, EQ.out, ER.out] at HT HO HP HV
  rw [EE.out] at he HE HV
  obtain ⟨u0, U0⟩ : ∃ u, Hid (k % p = u) := ⟨_, Lib.hid rfl⟩
  obtain ⟨u1, U1⟩ : ∃ u, Hid (k / p % q = u) := ⟨_, Lib.hid rfl⟩
  obtain ⟨u2, U2⟩ : ∃ u, Hid (k / p / q % r = u) := ⟨_, Lib.hid rfl⟩
  have b0 := emod_b (a := k) HT.out.p1
  have b1 := emod_b (a := k / p) HT.out.q1
  have b2 := emod_b (a := k / p / q) HT.out.r1
  have c0 := emod_b (a := x) HT.out.p1
  have c1 := emod_b (a := x / p) HT.out.q1
  have c2 := emod_b (a := x / p / q) HT.out.r1
  rw [U0.out, U1.out, U2.out] at HP HV
  rw [U0.out] at b0
  rw [U1.out] at b1
  rw [U2.out] at b2
  have HPL := Lib.hid (fun (W : World) => iPlaces W p q r x HT.out hx0 hx)
  obtain ⟨v0, V0⟩ : ∃ u, Hid (x % p = u) := ⟨_, Lib.hid rfl⟩
  obtain ⟨v1, V1⟩ : ∃ u, Hid (x / p % q = u) := ⟨_, Lib.hid rfl⟩
  obtain ⟨v2, V2⟩ : ∃ u, Hid (x / p / q % r = u) := ⟨_, Lib.hid rfl⟩
  rw [V0.out, V1.out, V2.out] at HPL HV
  rw [V0.out] at c0
  rw [V1.out] at c1
  rw [V2.out] at c2
  rw [HV.out]
  have X0 := ix0 v0 v1 v2
  have X1 := ix1 v0 v1 v2
  have X2 := ix2 v0 v1 v2
  have p1 := HT.out.p1
  have p2 := HT.out.p2
  have q1 := HT.out.q1
  have q2 := HT.out.q2
  have r1 := HT.out.r1
  have r2 := HT.out.r2
  have dq : ∀ c : Int, 1 ≤ c → 0 ≤ E / c ∧ E / c ≤ 24 := fun c hc => ⟨Int.ediv_nonneg (by omega) (by omega), Int.le_trans (Int.ediv_le_self _ (by omega)) he.2⟩
  obtain ⟨d1, d1'⟩ := dq p p1
  obtain ⟨d2, d2'⟩ := dq q q1
  obtain ⟨d3, d3'⟩ := dq r r1
  obtain ⟨m1, m1', m2, m2'⟩ := prod3 b0.1 (by omega) c0.1 (by omega) d1 d1'
  obtain ⟨m3, m3', m4, m4'⟩ := prod3 b1.1 (by omega) c1.1 (by omega) d2 d2'
  obtain ⟨m5, m5', m6, m6'⟩ := prod3 b2.1 (by omega) c2.1 (by omega) d3 d3'
  obtain ⟨o0, o1, o2, _, _, _⟩ := trip_cell HO.out
  clear dq hc hg hx0 hx
  go_enter Tryz.func90, Tryz.ntmps90
  go_wp2_with (go_at_call 88; refine (HPL.out _).mono ?_; rintro e w1 ⟨rfl, hb1⟩; have HB1 := Lib.hid hb1; obtain ⟨o0, o1, o2, _, _, _⟩ := trip_cell (keepH hb1 (Array.getElem?_eq_some_iff.1 HO.out).1 HO.out); obtain ⟨p0, p1c, p2c, _, _, _⟩ := trip_cell (keepH hb1 (Array.getElem?_eq_some_iff.1 HP.out).1 HP.out); have e0 := one_cell7 (keepH hb1 (Array.getElem?_eq_some_iff.1 HE.out).1 HE.out); clear hb1)
  refine wp_loop_rounds 4 ?_
  rw [rounds_succ]; go_wp2
  go_quiet (fail)
  go_wp2
  rw [rounds_succ]; go_wp2
  go_quiet (fail)
  go_wp2
  rw [rounds_succ]; go_wp2
  go_quiet (fail)
  go_wp2
  rw [rounds_succ]; go_wp2
  go_ret
  exact ⟨by simp, HB1.out.trans (Joins.below_draws _ _ _)⟩
set_option maxHeartbeats 2000000 in
theorem iWhereK {l : List Int} (hg : grpB l = true) (w : World) (bc : Nat) (Pk : Nat → Bool) (S : Nat → Nat) (hS0 : S 0 = 0) (hSy : ∀ k, Pk k = true → S (k + 1) = S k ||| 2 ^ k) (hSn : ∀ k, Pk k = false → S (k + 1) = S k) (hS24 : ∀ k, k ≤ 24 → S k < 16777216)
    (hK : ∀ W, Below w.heap.size w W → ∀ k : Nat, (k : Int) < prodI l → Calls Tryz.prog 84 #[.int .i64 k, .pointer (some ⟨bc, 0, none⟩)] W fun e w' => e = .returned (.bool (Pk k)) ∧ Below W.heap.size W w') :
    Calls Tryz.prog 73 #[tV (l.getD 0 1) (l.getD 1 1) (l.getD 2 1), .func (.func 84) #[] #[.pointer (some ⟨bc, 0, none⟩)]] w fun e w' => e = .returned (.int .u64 (S (prodI l).toNat : Nat)) ∧ Below w.heap.size w w' := by
  have hP := (ords_grp hg).prod
  obtain ⟨P, hPe⟩ : ∃ P : Nat, prodI l = (P : Int) := ⟨(prodI l).toNat, by omega⟩
  have HK := Lib.hid hK
  have HPR := Lib.hid (fun (W : World) => iProduct W _ _ _ (tri_grp hg))
  rw [← prod_pad (grpB_true hg).1, hPe] at HPR
  rw [hPe] at hP HK
  rw [show (prodI l).toNat = P by omega]
  have hP24 : P ≤ 24 := by omega
  have HS0 := Lib.hid hS0
  have HSY := Lib.hid hSy
  have HSN := Lib.hid hSn
  have HSB := Lib.hid hS24
  obtain ⟨p, EP⟩ : ∃ p, Hid (l.getD 0 1 = p) := ⟨_, Lib.hid rfl⟩
  obtain ⟨q, EQ⟩ : ∃ q, Hid (l.getD 1 1 = q) := ⟨_, Lib.hid rfl⟩
  obtain ⟨r, ER⟩ : ∃ r, Hid (l.getD 2 1 = r) := ⟨_, Lib.hid rfl⟩
  rw [EP.out, EQ.out, ER.out] at HPR
  rw [EP.out, EQ.out, ER.out]
  have HAL := Lib.hid (heap_alloc_new w (.cells #[.int .i64 p, .int .i64 q, .int .i64 r] 46))
  have HB := Lib.hid (Joins.below_alloc1 w (.cells #[.int .i64 p, .int .i64 q, .int .i64 r] 46))
  have T0 := Lib.hid (Below.refl (w.alloc (.cells #[.int .i64 p, .int .i64 q, .int .i64 r] 46)).heap.size (w.alloc (.cells #[.int .i64 p, .int .i64 q, .int .i64 r] 46)))
  clear hP hK hS0 hSy hSn hS24 hPe hg
  go_enter Tryz.func73, Tryz.ntmps73
  go_wp2_with (go_at_call 39; refine (HPR.out _).mono ?_; rintro e w1 ⟨rfl, hb1⟩; have T1 := Lib.hid (T0.out.trans hb1); clear hb1)
  go_loopw [5, 9] (fun o i wr => ∃ k : Nat, k ≤ P ∧ i = .int .i64 k ∧ o = .int .u64 (S k : Nat) ∧ Below (w.alloc (.cells #[.int .i64 p, .int .i64 q, .int .i64 r] 46)).heap.size (w.alloc (.cells #[.int .i64 p, .int .i64 q, .int .i64 r] 46)) wr) (fun _ i _ => P - (intOf i).toNat)
  case atStart => exact ⟨0, Nat.zero_le _, rfl, by rw [HS0.out]; rfl, T1.out⟩
  case round =>
    obtain ⟨k, hk, rfl, rfl, hbel⟩ := hrel
    have HBL := Lib.hid hbel
    by_cases hlt : k < P
    · have hk23 : k ≤ 23 := by omega
      have hkP : (k : Int) < (P : Int) := by omega
      have HY := Lib.hid (HSY.out k)
      have HZ := Lib.hid (HSN.out k)
      have HS24 : Hid (S k < 2 ^ 24) := Lib.hid (HSB.out k (by omega))
      have HKK := Lib.hid (HK.out wr (HB.out.trans (hbel.mono (by simp))) k hkP)
      obtain ⟨s, hSS⟩ : ∃ s, S k = s := ⟨_, rfl⟩
      rw [hSS] at HY HZ HS24
      rw [hSS]
      clear hSS hbel
      cases hv : Pk k with
      | true =>
        have E1 := Lib.hid (HY.out hv)
        rw [hv] at HKK
        clear HY HZ hv
        go_wp2_with (first
          | (go_at_call 92; refine (iWith _ s k HS24.out hk23).mono ?_; rintro e w6 ⟨rfl, rfl⟩)
          | (go_at_call 84; refine (HKK.out).mono ?_; rintro e w5 ⟨rfl, hb5⟩))
        go_roundw
        case rel => exact ⟨k + 1, by omega, by go_num, by rw [E1.out], HBL.out.trans (hb5.mono HBL.out.size)⟩
        case measure => simp [intOf]; omega
      | false =>
        have E1 := Lib.hid (HZ.out hv)
        rw [hv] at HKK
        clear HY HZ hv
        go_wp2_with (go_at_call 84; refine (HKK.out).mono ?_; rintro e w5 ⟨rfl, hb5⟩)
        go_roundw
        case rel => exact ⟨k + 1, by omega, by go_num, by rw [E1.out], HBL.out.trans (hb5.mono HBL.out.size)⟩
        case measure => simp [intOf]; omega
    · obtain rfl : k = P := by omega
      clear hbel
      go_wp2
      go_ret
      exact ⟨rfl, HB.out.trans (HBL.out.mono (by simp))⟩
set_option maxHeartbeats 2000000 in
theorem iKer1 {l : List Int} (hg : grpB l = true) (w : World) (k x : Int) (hx0 : 0 ≤ x) (hx : x ≤ 23) {bc bo bp be : Nat} (hc : ChrAt w l k bo bp be) (hb : w.heap[bc]? = some (.cells #[.int .i64 (expN l), chrF bo bp be] 49 (0, 0))) :
    Calls Tryz.prog 84 #[.int .i64 x, .pointer (some ⟨bc, 0, none⟩)] w fun e w' => e = .returned (.bool (decide (chN l k x = 0))) ∧ Below w.heap.size w w' := by
  have HV := Lib.hid (iVal hg w k x hx0 hx hc)
  obtain ⟨c0, c1, _, _⟩ := two_cell hb
  obtain ⟨V, hV⟩ : ∃ V, chN l k x = V := ⟨_, rfl⟩
  have hd : decide (V = 0) = (V == 0) := by by_cases h : V = 0 <;> simp [h]
  have HD := Lib.hid hd
  rw [hV] at HV ⊢
  unfold chrF at c1
  clear hV hd hc hb hg hx0 hx
  go_enter Tryz.func84, Tryz.ntmps84
  go_wp2_with (go_at_call 90; refine (HV.out).mono ?_; rintro e w1 ⟨rfl, hb1⟩)
  go_ret
  exact ⟨by rw [HD.out]; rfl, hb1⟩
set_option maxHeartbeats 2000000 in
theorem iKer {l : List Int} (hg : grpB l = true) (w : World) (k : Nat) {bo bp be : Nat} (hc : ChrAt w l k bo bp be) :
    Calls Tryz.prog 59 #[tV (l.getD 0 1) (l.getD 1 1) (l.getD 2 1), .agg #[.int .i64 (expN l), chrF bo bp be]] w fun e w' => e = .returned (.int .u64 (kerK l k (prodI l).toNat : Nat)) ∧ Below w.heap.size w w' := by
  have hP := (ords_grp hg).prod
  have hmf : ∀ (fn : Fn) (first cap : Array Value) (w : World), (Instr.makeFunc fn first cap).run Tryz.prog w = .ok (.func fn first cap) w := fun _ _ _ _ => rfl
  have HB := Lib.hid (Joins.below_alloc2 w (.cells #[.int .i64 (l.getD 0 1), .int .i64 (l.getD 1 1), .int .i64 (l.getD 2 1)] 46) (.cells #[.int .i64 (expN l), chrF bo bp be] 49))
  have HCB := Lib.hid (hc.below HB.out)
  have R1 := Lib.hid (show ((w.alloc (.cells #[.int .i64 (l.getD 0 1), .int .i64 (l.getD 1 1), .int .i64 (l.getD 2 1)] 46)).alloc (.cells #[.int .i64 (expN l), chrF bo bp be] 49)).heap[w.heap.size + 1]? = some (.cells #[.int .i64 (expN l), chrF bo bp be] 49 (0, 0)) by simpa using heap_alloc_new (w.alloc (.cells #[.int .i64 (l.getD 0 1), .int .i64 (l.getD 1 1), .int .i64 (l.getD 2 1)] 46)) (.cells #[.int .i64 (expN l), chrF bo bp be] 49))
  have R0 := Lib.hid (keepH (Joins.below_alloc1 _ (.cells #[.int .i64 (expN l), chrF bo bp be] 49)) (by simp) (heap_alloc_new w (.cells #[.int .i64 (l.getD 0 1), .int .i64 (l.getD 1 1), .int .i64 (l.getD 2 1)] 46)))
  have HW := Lib.hid (iWhereK hg ((w.alloc (.cells #[.int .i64 (l.getD 0 1), .int .i64 (l.getD 1 1), .int .i64 (l.getD 2 1)] 46)).alloc (.cells #[.int .i64 (expN l), chrF bo bp be] 49)) (w.heap.size + 1) (fun x => decide (chN l (k : Int) (x : Int) = 0)) (kerK l k) rfl (fun x h => kerK_yes (of_decide_eq_true h)) (fun x h => kerK_no (of_decide_eq_false h)) (fun m hm => kerK_lt24 l k hm)
    (fun W hW x hx => iKer1 hg W k x (by omega) (by omega) (HCB.out.below hW) (keepH hW (by simp) R1.out)))
  obtain ⟨p, EP⟩ : ∃ p, Hid (l.getD 0 1 = p) := ⟨_, Lib.hid rfl⟩
  obtain ⟨q, EQ⟩ : ∃ q, Hid (l.getD 1 1 = q) := ⟨_, Lib.hid rfl⟩
  obtain ⟨r, ER⟩ : ∃ r, Hid (l.getD 2 1 = r) := ⟨_, Lib.hid rfl⟩
  rw [EP.out, EQ.out, ER.out] at HW HB R0
  rw [EP.out, EQ.out, ER.out]
  obtain ⟨V, HVV⟩ : ∃ V, Hid (chrF bo bp be = V) := ⟨_, Lib.hid rfl⟩
  rw [HVV.out] at HW HB R0
  rw [HVV.out]
  obtain ⟨c0, c1, c2, _, _, _⟩ := trip_cell R0.out
  clear hP hc hg HCB R1
  go_enter Tryz.func59, Tryz.ntmps59
  go_wp2_with (go_at_call 73; refine (HW.out).mono ?_; rintro e w2 ⟨rfl, hb2⟩)
  go_ret
  exact ⟨rfl, HB.out.trans (hb2.mono (by simp <;> omega))⟩
end Go.Proofs.YthlpjiibjlaebaaGreatDoor
