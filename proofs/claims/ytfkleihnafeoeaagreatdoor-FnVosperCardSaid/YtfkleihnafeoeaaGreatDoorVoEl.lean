/- The program's own places of elements: those of a sum, and the elements that places stand for. -/
import Derived.Test.YtfkleihnafeoeaaGreatDoorVoMath
import Derived.Test.YtfkleihnafeoeaaGreatDoorWoI
import Derived.Test.YtfkleihnafeoeaaGreatDoorGrpFun
namespace Go.Proofs.YtfkleihnafeoeaaGreatDoor
open Go.RowKit
set_option maxRecDepth 1000000
theorem set3_heapV {w : World} {b : Nat} {x y z u v s : Value} {t : TypeId} (h : w.heap[b]? = some (.cells #[x, y, z] t (0, 0))) : (((w.setCell ⟨b, 0, none⟩ u).setCell ⟨b, 1, none⟩ v).setCell ⟨b, 2, none⟩ s).heap[b]? = some (.cells #[u, v, s] t (0, 0)) := by
  simp [World.setCell, Array.getElem?_modify, h]
theorem set3_other {w : World} {b c : Nat} {u v s : Value} {o : Obj} (h : w.heap[c]? = some o) (hne : c ≠ b) : (((w.setCell ⟨b, 0, none⟩ u).setCell ⟨b, 1, none⟩ v).setCell ⟨b, 2, none⟩ s).heap[c]? = some o :=
  ((grownG_set (grownG_set (grownG_set (World.grownBy.refl w (some b)) 0 u) 1 v) 2 s).block c (Array.getElem?_eq_some_iff.1 h).1 (fun e => by cases e; exact hne rfl)).trans h
theorem mod_dig {l : List Int} (ho : Ords l) (x y : Int) {j : Nat} (hj : j < l.length) : dig l (addN l x y) j = (dig l x j + dig l y j) % l.getD j 0 := addN_dig ho x y hj
def plU (l : List Int) (x : Nat) : Int := (x : Int) % l.getD 0 1
def plV (l : List Int) (x : Nat) : Int := (x : Int) / l.getD 0 1 % l.getD 1 1
def plS (l : List Int) (x : Nat) : Int := (x : Int) / l.getD 0 1 / l.getD 1 1 % l.getD 2 1
/-- The places of elements: those of a sum are the sums of the places, and places lead back. -/
theorem run_el {l : List Int} (hg : grpB l = true) :
    (∀ (W : World) (x : Nat), x < (prodI l).toNat → Calls Tryz.prog 70 #[tV (l.getD 0 1) (l.getD 1 1) (l.getD 2 1), .int .i64 x] W fun e w' => e = .returned (tV (plU l x) (plV l x) (plS l x)) ∧ Below W.heap.size W w') ∧
    (∀ (W : World) (x y : Nat), x < (prodI l).toNat → y < (prodI l).toNat → Calls Tryz.prog 54 #[tV (l.getD 0 1) (l.getD 1 1) (l.getD 2 1), tV (plU l x) (plV l x) (plS l x), tV (plU l y) (plV l y) (plS l y)] W fun e w' => e = .returned (tV (plU l (adN l x y)) (plV l (adN l x y)) (plS l (adN l x y))) ∧ Below W.heap.size W w') ∧
    (∀ (W : World) (x : Nat), x < (prodI l).toNat → Calls Tryz.prog 53 #[tV (l.getD 0 1) (l.getD 1 1) (l.getD 2 1), tV (plU l x) (plV l x) (plS l x)] W fun e w' => e = .returned (.int .i64 x) ∧ Below W.heap.size W w') := by
  have HT := tri_grp hg
  have ho := ords_grp hg
  have hp := ho.prod
  have hl3 := (grpB_true hg).1
  have hp1 := HT.p1
  unfold plU plV plS
  refine ⟨fun W x hx => iPlaces W _ _ _ (x : Int) HT (by omega) (by omega), fun W x y hx hy => ?_, fun W x hx => ?_⟩
  · have hA : ((adN l x y : Nat) : Int) = addN l (x : Int) (y : Int) := by
      have := addN_in ho (x : Int) (y : Int)
      unfold adN
      omega
    have h := iAdd W _ _ _ _ _ _ _ _ _ HT (emod_b (a := (x : Int)) HT.p1) (emod_b (a := (x : Int) / l.getD 0 1) HT.q1) (emod_b (a := (x : Int) / l.getD 0 1 / l.getD 1 1) HT.r1) (emod_b (a := (y : Int)) HT.p1) (emod_b (a := (y : Int) / l.getD 0 1) HT.q1) (emod_b (a := (y : Int) / l.getD 0 1 / l.getD 1 1) HT.r1)
    have e0 : ((x : Int) % l.getD 0 1 + (y : Int) % l.getD 0 1) % l.getD 0 1 = ((adN l x y : Nat) : Int) % l.getD 0 1 := by
      rw [hA]
      by_cases q : 0 < l.length
      · have := mod_dig ho (x : Int) (y : Int) q
        rw [tdig0 _ q, tdig0 _ q, tdig0 _ q, ord0.1 q] at this
        exact this.symm
      · rw [one_mod (ord0.2 (by omega)), one_mod (ord0.2 (by omega))]
    have e1 : ((x : Int) / l.getD 0 1 % l.getD 1 1 + (y : Int) / l.getD 0 1 % l.getD 1 1) % l.getD 1 1 = ((adN l x y : Nat) : Int) / l.getD 0 1 % l.getD 1 1 := by
      rw [hA]
      by_cases q : 1 < l.length
      · have := mod_dig ho (x : Int) (y : Int) q
        rw [tdig1 _ q, tdig1 _ q, tdig1 _ q, ord1.1 q] at this
        exact this.symm
      · rw [one_mod (ord1.2 (by omega)), one_mod (ord1.2 (by omega))]
    have e2 : ((x : Int) / l.getD 0 1 / l.getD 1 1 % l.getD 2 1 + (y : Int) / l.getD 0 1 / l.getD 1 1 % l.getD 2 1) % l.getD 2 1 = ((adN l x y : Nat) : Int) / l.getD 0 1 / l.getD 1 1 % l.getD 2 1 := by
      rw [hA]
      by_cases q : 2 < l.length
      · have := mod_dig ho (x : Int) (y : Int) q
        rw [tdig2 _ q (by omega), tdig2 _ q (by omega), tdig2 _ q (by omega), ord2.1 q] at this
        exact this.symm
      · rw [one_mod (ord2.2 (by omega)), one_mod (ord2.2 (by omega))]
    rw [e0, e1, e2] at h
    exact h
  · have h := iElement W _ _ _ _ _ _ HT (emod_b (a := (x : Int)) HT.p1) (emod_b (a := (x : Int) / l.getD 0 1) HT.q1) (emod_b (a := (x : Int) / l.getD 0 1 / l.getD 1 1) HT.r1)
    have hv : (x : Int) % l.getD 0 1 + l.getD 0 1 * ((x : Int) / l.getD 0 1 % l.getD 1 1) + l.getD 0 1 * l.getD 1 1 * ((x : Int) / l.getD 0 1 / l.getD 1 1 % l.getD 2 1) = (x : Int) := by
      have hxl : (x : Int) < l.getD 0 1 * l.getD 1 1 * l.getD 2 1 := by rw [← prod_pad hl3]; omega
      obtain ⟨_, _, hq1, _, hr1, _, _, _, _, _⟩ := HT
      generalize l.getD 0 1 = p at *
      generalize l.getD 1 1 = q at *
      generalize l.getD 2 1 = r at *
      have k1 : (x : Int) / p / q < r := by
        rw [Int.ediv_ediv_of_nonneg (by omega)]
        refine Int.ediv_lt_of_lt_mul (Int.mul_pos (by omega) (by omega)) ?_
        rw [Int.mul_comm]
        exact hxl
      have k0 : 0 ≤ (x : Int) / p / q := Int.ediv_nonneg (Int.ediv_nonneg (by omega) (by omega)) (by omega)
      rw [Int.emod_eq_of_lt k0 k1]
      have d1 := Int.emod_add_mul_ediv (x : Int) p
      have d2 := Int.emod_add_mul_ediv ((x : Int) / p) q
      rw [Int.mul_assoc, Int.add_assoc, ← Int.mul_add, d2, d1]
    rw [hv] at h
    exact h
end Go.Proofs.YtfkleihnafeoeaaGreatDoor
