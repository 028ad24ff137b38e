/- The program's own characters: the character with a number, its values, its kernel, the annihilator of a set. -/
import Derived.Test.YticgoodmfjjggaaDoorGrpExp
import Derived.Test.YticgoodmfjjggaaDoorChaSpec
import Derived.Test.YticgoodmfjjggaaDoorSetBits
import Derived.Deep.RegionHeld3
import Derived.Deep.DeepCutAuto
namespace Go.Proofs.YticgoodmfjjggaaDoor
open Go.RowKit
set_option maxRecDepth 1000000
theorem ch_tri {l : List Int} (hg : grpB l = true) (k x : Int) : chN l k x =
    (k % l.getD 0 1 * (x % l.getD 0 1) * (expN l / l.getD 0 1) + k / l.getD 0 1 % l.getD 1 1 * (x / l.getD 0 1 % l.getD 1 1) * (expN l / l.getD 1 1) + k / l.getD 0 1 / l.getD 1 1 % l.getD 2 1 * (x / l.getD 0 1 / l.getD 1 1 % l.getD 2 1) * (expN l / l.getD 2 1)) % expN l := by
  have hl := (grpB_true hg).1
  have hp : 0 ≤ l.getD 0 1 := by have := (tri_grp hg).p1; omega
  have z0 : l.length ≤ 0 → ∀ y : Int, y % l.getD 0 1 = 0 := fun h y => one_mod (ord0.2 h)
  have z1 : l.length ≤ 1 → ∀ y : Int, y % l.getD 1 1 = 0 := fun h y => one_mod (ord1.2 h)
  have z2 : l.length ≤ 2 → ∀ y : Int, y % l.getD 2 1 = 0 := fun h y => one_mod (ord2.2 h)
  unfold chN
  congr 1
  have hc : l.length = 0 ∨ l.length = 1 ∨ l.length = 2 ∨ l.length = 3 := by omega
  rcases hc with h | h | h | h
  · rw [h]
    simp only [chK, z0 (by omega), z1 (by omega), z2 (by omega), Int.zero_mul, Int.add_zero]
  · rw [h]
    simp only [chK, z1 (by omega), z2 (by omega), Int.zero_mul, Int.add_zero, Int.zero_add, tdig0 _ (show 0 < l.length by omega), ord0.1 (show 0 < l.length by omega)]
  · rw [h]
    simp only [chK, z2 (by omega), Int.zero_mul, Int.add_zero, Int.zero_add, tdig0 _ (show 0 < l.length by omega), ord0.1 (show 0 < l.length by omega), tdig1 _ (show 1 < l.length by omega), ord1.1 (show 1 < l.length by omega)]
  · rw [h]
    simp only [chK, Int.zero_add, tdig0 _ (show 0 < l.length by omega), ord0.1 (show 0 < l.length by omega), tdig1 _ (show 1 < l.length by omega), ord1.1 (show 1 < l.length by omega), tdig2 _ (show 2 < l.length by omega) hp, ord2.1 (show 2 < l.length by omega)]
/-- A character as a value: the exponent, and the function with what it captured. -/
def chrF (bo bp be : Nat) : Value := .func (.func 45) #[] #[.pointer (some ⟨bo, 0, none⟩), .pointer (some ⟨bp, 0, none⟩), .pointer (some ⟨be, 0, none⟩)]
/-- What it captured stands in the world. -/
structure ChrAt (W : World) (l : List Int) (k : Int) (bo bp be : Nat) : Prop where
  o : W.heap[bo]? = some (.cells #[.int .i64 (l.getD 0 1), .int .i64 (l.getD 1 1), .int .i64 (l.getD 2 1)] 53 (0, 0))
  p : W.heap[bp]? = some (.cells #[.int .i64 (k % l.getD 0 1), .int .i64 (k / l.getD 0 1 % l.getD 1 1), .int .i64 (k / l.getD 0 1 / l.getD 1 1 % l.getD 2 1)] 53 (0, 0))
  e : W.heap[be]? = some (.cells #[.int .i64 (expN l)] 3 (0, 0))
theorem ChrAt.below {W W' : World} {l : List Int} {k : Int} {bo bp be : Nat} (h : ChrAt W l k bo bp be) (hb : Below W.heap.size W W') : ChrAt W' l k bo bp be :=
  ⟨keepH hb (Array.getElem?_eq_some_iff.1 h.o).1 h.o, keepH hb (Array.getElem?_eq_some_iff.1 h.p).1 h.p, keepH hb (Array.getElem?_eq_some_iff.1 h.e).1 h.e⟩
theorem one_cell {w : World} {B : Nat} {x : Value} {T : TypeId} (h : w.heap[B]? = some (.cells #[x] T (0, 0))) : w.cell? ⟨B, 0, none⟩ = some x := by simp [World.cell?, h]
theorem two_cell {w : World} {B : Nat} {x y : Value} {T : TypeId} (h : w.heap[B]? = some (.cells #[x, y] T (0, 0))) : w.cell? ⟨B, 0, none⟩ = some x ∧ w.cell? ⟨B, 1, none⟩ = some y ∧ w.frozen? ⟨B, 0, none⟩ = false ∧ w.frozen? ⟨B, 1, none⟩ = false :=
  ⟨by simp [World.cell?, h], by simp [World.cell?, h], by simp [World.frozen?, h], by simp [World.frozen?, h]⟩
set_option maxHeartbeats 2000000 in
theorem iVal {l : List Int} (hg : grpB l = true) (w : World) (k x : Int) (hx0 : 0 ≤ x) (hx : x ≤ 23) {bo bp be : Nat} (hc : ChrAt w l k bo bp be) :
    Calls Tryd.prog 45 #[.int .i64 x, .pointer (some ⟨bo, 0, none⟩), .pointer (some ⟨bp, 0, none⟩), .pointer (some ⟨be, 0, none⟩)] w fun e w' => e = .returned (.int .i64 (chN l k x)) ∧ Below w.heap.size w w' := by
  have HC := Lib.hid hc
  have HT := Lib.hid (tri_grp hg)
  have HV := Lib.hid (ch_tri hg k x)
  have he := expN_le hg
  obtain ⟨E, EE⟩ : ∃ E, Hid (expN l = E) := ⟨_, Lib.hid rfl⟩
  obtain ⟨p, EP⟩ : ∃ p, Hid (l.getD 0 1 = p) := ⟨_, Lib.hid rfl⟩
  obtain ⟨q, EQ⟩ : ∃ q, Hid (l.getD 1 1 = q) := ⟨_, Lib.hid rfl⟩
  obtain ⟨r, ER⟩ : ∃ r, Hid (l.getD 2 1 = r) := ⟨_, Lib.hid rfl⟩
  have HO := Lib.hid hc.o
  have HP := Lib.hid hc.p
  have HE := Lib.hid hc.e
  rw [EP.out, EQ.out, ER.out] at HT HO HP HV
  rw [EE.out] at he HE HV
  obtain ⟨u0, U0⟩ : ∃ u, Hid (k % p = u) := ⟨_, Lib.hid rfl⟩
  obtain ⟨u1, U1⟩ : ∃ u, Hid (k / p % q = u) := ⟨_, Lib.hid rfl⟩
  obtain ⟨u2, U2⟩ : ∃ u, Hid (k / p / q % r = u) := ⟨_, Lib.hid rfl⟩
  have b0 := emod_b (a := k) HT.out.p1
  have b1 := emod_b (a := k / p) HT.out.q1
  have b2 := emod_b (a := k / p / q) HT.out.r1
  have c0 := emod_b (a := x) HT.out.p1
  have c1 := emod_b (a := x / p) HT.out.q1
  have c2 := emod_b (a := x / p / q) HT.out.r1
  rw [U0.out, U1.out, U2.out] at HP HV
  rw [U0.out] at b0
  rw [U1.out] at b1
  rw [U2.out] at b2
  have HPL := Lib.hid (fun (W : World) => iPlaces W p q r x HT.out hx0 hx)
  obtain ⟨v0, V0⟩ : ∃ u, Hid (x % p = u) := ⟨_, Lib.hid rfl⟩
  obtain ⟨v1, V1⟩ : ∃ u, Hid (x / p % q = u) := ⟨_, Lib.hid rfl⟩
  obtain ⟨v2, V2⟩ : ∃ u, Hid (x / p / q % r = u) := ⟨_, Lib.hid rfl⟩
  rw [V0.out, V1.out, V2.out] at HPL HV
  rw [V0.out] at c0
  rw [V1.out] at c1
  rw [V2.out] at c2
  rw [HV.out]
  have X0 := ix0 v0 v1 v2
  have X1 := ix1 v0 v1 v2
  have X2 := ix2 v0 v1 v2
  have p1 := HT.out.p1
  have p2 := HT.out.p2
  have q1 := HT.out.q1
  have q2 := HT.out.q2
  have r1 := HT.out.r1
  have r2 := HT.out.r2
  have dq : ∀ c : Int, 1 ≤ c → 0 ≤ E / c ∧ E / c ≤ 24 := fun c hc => ⟨Int.ediv_nonneg (by omega) (by omega), Int.le_trans (Int.ediv_le_self _ (by omega)) he.2⟩
  obtain ⟨d1, d1'⟩ := dq p p1
  obtain ⟨d2, d2'⟩ := dq q q1
  obtain ⟨d3, d3'⟩ := dq r r1
  obtain ⟨m1, m1', m2, m2'⟩ := prod3 b0.1 (by omega) c0.1 (by omega) d1 d1'
  obtain ⟨m3, m3', m4, m4'⟩ := prod3 b1.1 (by omega) c1.1 (by omega) d2 d2'
  obtain ⟨m5, m5', m6, m6'⟩ := prod3 b2.1 (by omega) c2.1 (by omega) d3 d3'
  obtain ⟨o0, o1, o2, _, _, _⟩ := trip_cell HO.out
  clear dq hc hg hx0 hx
  go_enter Tryd.func45, Tryd.ntmps45
  go_wp2_with (go_at_call 43; refine (HPL.out _).mono ?_; rintro e w1 ⟨rfl, hb1⟩; have HB1 := Lib.hid hb1; obtain ⟨o0, o1, o2, _, _, _⟩ := trip_cell (keepH hb1 (Array.getElem?_eq_some_iff.1 HO.out).1 HO.out); obtain ⟨p0, p1c, p2c, _, _, _⟩ := trip_cell (keepH hb1 (Array.getElem?_eq_some_iff.1 HP.out).1 HP.out); have e0 := one_cell (keepH hb1 (Array.getElem?_eq_some_iff.1 HE.out).1 HE.out); clear hb1)
  refine wp_loop_rounds 4 ?_
  rw [rounds_succ]; go_wp2
  go_quiet (fail)
  go_wp2
  rw [rounds_succ]; go_wp2
  go_quiet (fail)
  go_wp2
  rw [rounds_succ]; go_wp2
  go_quiet (fail)
  go_wp2
  rw [rounds_succ]; go_wp2
  go_ret
  exact ⟨by simp, HB1.out.trans (Joins.below_draws _ _ _)⟩
end Go.Proofs.YticgoodmfjjggaaDoor
