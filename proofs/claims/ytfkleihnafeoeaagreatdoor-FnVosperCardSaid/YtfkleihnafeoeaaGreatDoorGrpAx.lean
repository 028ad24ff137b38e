/- Plain mathematics of groups: the sum of elements is associative and commutative, 0 and the negative do what they should; orders divide. -/
import Derived.Test.YtfkleihnafeoeaaGreatDoorGrpMath2
namespace Go.Proofs.YtfkleihnafeoeaaGreatDoor
theorem sdig_bndO {l : List Int} (h : Ords l) (x y : Int) {j : Nat} (hj : j < l.length) : 0 ≤ sdig l x y j ∧ sdig l x y j < l.getD j 0 := by
  have := h.pos j hj
  exact ⟨Int.emod_nonneg _ (by omega), Int.emod_lt_of_pos _ (by omega)⟩
theorem addN_dig {l : List Int} (h : Ords l) (x y : Int) {j : Nat} (hj : j < l.length) : dig l (addN l x y) j = (dig l x j + dig l y j) % l.getD j 0 := by
  rw [← sdig_eq]
  exact dig_val h _ _ _ hj (Nat.le_refl _) (fun _ hi => sdig_bndO h x y hi)
theorem addN_in {l : List Int} (h : Ords l) (x y : Int) : 0 ≤ addN l x y ∧ addN l x y < prodI l := by
  rw [← PK_full]; exact h.val_bnd _ (fun j hj => sdig_bndO h x y hj) _ (Nat.le_refl _)
theorem addN_comm (l : List Int) (x y : Int) : addN l x y = addN l y x := by
  apply val_congr
  intro j _
  rw [sdig_eq, sdig_eq, Int.add_comm]
theorem addN_assoc {l : List Int} (h : Ords l) (x y z : Int) : addN l (addN l x y) z = addN l x (addN l y z) := by
  apply val_congr
  intro j hj
  rw [sdig_eq, sdig_eq, addN_dig h x y hj, addN_dig h y z hj, Int.emod_add_emod, Int.add_emod_emod, Int.add_assoc]
theorem dig_zero0 (l : List Int) (j : Nat) : dig l 0 j = 0 := by unfold dig; simp
theorem addN_zero {l : List Int} (h : Ords l) {x : Int} (h0 : 0 ≤ x) (h1 : x < prodI l) : addN l x 0 = x := by
  have e : addN l x 0 = valK l (dig l x) l.length := by
    apply val_congr
    intro j _
    rw [sdig_eq, dig_zero0, Int.add_zero]
    unfold dig; rw [Int.emod_emod]
  rw [e, val_dig h h0 h1]
theorem addN_neg {l : List Int} (h : Ords l) (x : Int) : addN l x (negN l x) = 0 := by
  have e : addN l x (negN l x) = valK l (fun _ => 0) l.length := by
    apply val_congr
    intro j hj
    rw [sdig_eq]
    unfold negN
    rw [mulN_dig h x (-1) hj]
    unfold mulF
    rw [Int.add_emod_emod]
    rw [show dig l x j + dig l x j * -1 = 0 by omega]
    simp
  rw [e]
  have : ∀ k, valK l (fun _ => 0) k = 0 := by
    intro k; induction k with
    | zero => rfl
    | succ k ih => simp [valK, ih]
  exact this _
theorem add_neg_back {l : List Int} (h : Ords l) {x : Int} (y : Int) (h0 : 0 ≤ x) (h1 : x < prodI l) : addN l (addN l x y) (negN l y) = x := by
  rw [addN_assoc h, addN_neg h, addN_zero h h0 h1]
theorem negN_in {l : List Int} (h : Ords l) (x : Int) : 0 ≤ negN l x ∧ negN l x < prodI l := mulN_bnd h x (-1)
theorem negN_neg {l : List Int} (h : Ords l) {x : Int} (h0 : 0 ≤ x) (h1 : x < prodI l) : negN l (negN l x) = x := by
  show mulN l (negN l x) (-1) = x
  rw [mul_neg h, show (- -1 : Int) = 1 by decide, mulN_one h h0 h1]
/-- A list without doubles is no longer than one that holds it. -/
theorem len_le_of_sub : ∀ (L M : List Nat), L.Nodup → (∀ x ∈ L, x ∈ M) → L.length ≤ M.length
  | [], _, _, _ => by simp
  | x :: t, M, hn, hs => by
    rw [List.nodup_cons] at hn
    have hx := hs x (by simp)
    have := len_le_of_sub t (M.erase x) hn.2 (fun y hy => (List.mem_erase_of_ne (fun e => hn.1 (by rw [← e]; exact hy))).2 (hs y (by simp [hy])))
    rw [List.length_erase_of_mem hx] at this
    have := List.length_pos_of_mem hx
    rw [List.length_cons]; omega
end Go.Proofs.YtfkleihnafeoeaaGreatDoor
