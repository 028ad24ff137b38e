/- Energies in a finite commutative group: pairs with one sum, and pairs with one difference. Plain mathematics. -/
import Derived.Test.YtfkleihnafeoeaaGreatDoorKnMore
namespace Go.Proofs.YtfkleihnafeoeaaGreatDoor
theorem sm_mulr (f : Nat → Nat) (c : Nat) (n : Nat) : sm f n * c = sm (fun i => f i * c) n := by
  rw [Nat.mul_comm, ← sm_mul]
  exact sm_congr (fun i _ => Nat.mul_comm _ _)
theorem sm_prod (f g : Nat → Nat) (n : Nat) : sm f n * sm g n = sm (fun i => sm (fun j => f i * g j) n) n := by
  rw [sm_mulr]
  exact sm_congr (fun i _ => (sm_mul (f i) g n).symm)
/-- How many pairs of A and B have the sum s. -/
def cor (N : Nat) (ad : Nat → Nat → Nat) (ng : Nat → Nat) (A B : Nat → Bool) (s : Nat) : Nat := sm (fun x => (A x).toNat * (B (ad s (ng x))).toNat) N
section
variable {N : Nat} {ad : Nat → Nat → Nat} {ng : Nat → Nat} (G : Abel N ad ng)
include G
theorem sm_shift (f : Nat → Nat) (t : Nat) : sm (fun z => f (ad z t)) N = sm f N := by
  have e1 : sm (fun z => f (ad z t)) N = sm (fun z => sm (fun y => if ad z t = y then f y else 0) N) N := sm_congr (fun z _ => by
    rw [sm_one, if_pos (G.lt z t)])
  rw [e1, sm_swap]
  refine sm_congr (fun y hy => ?_)
  have e2 : sm (fun z => if ad z t = y then f y else 0) N = sm (fun z => if ad y (ng t) = z then (fun _ => f y) z else 0) N := sm_congr (fun z hz => by
    by_cases h : ad z t = y
    · rw [if_pos h, if_pos ((ab_move G hz hy).1 h)]
    · rw [if_neg h, if_neg (fun h2 => h ((ab_move G hz hy).2 h2))])
  rw [e2, sm_one, if_pos (G.lt _ _)]
theorem sm_neg (f : Nat → Nat) : sm (fun z => f (ng z)) N = sm f N := by
  have e1 : sm (fun z => f (ng z)) N = sm (fun z => sm (fun y => if ng z = y then f y else 0) N) N := sm_congr (fun z _ => by
    rw [sm_one, if_pos (G.nlt z)])
  rw [e1, sm_swap]
  refine sm_congr (fun y hy => ?_)
  have e2 : sm (fun z => if ng z = y then f y else 0) N = sm (fun z => if ng y = z then (fun _ => f y) z else 0) N := sm_congr (fun z hz => by
    by_cases h : ng z = y
    · rw [if_pos h, if_pos (by rw [← h, ng_ng G hz])]
    · rw [if_neg h, if_neg (fun h2 => h (by rw [← h2, ng_ng G hy]))])
  rw [e2, sm_one, if_pos (G.nlt _)]
/-- The counts add up to the product of the sizes. -/
theorem cor_total (A B : Nat → Bool) : sm (cor N ad ng A B) N = cd N A * cd N B := by
  unfold cor
  rw [sm_swap]
  have e : ∀ x, sm (fun s => (A x).toNat * (B (ad s (ng x))).toNat) N = (A x).toNat * cd N B := fun x => by
    rw [sm_mul, ← cd_shift G B (ng x)]
    rfl
  rw [sm_congr (fun x _ => e x), ← sm_mulr]
  rfl
theorem diff_back (x i : Nat) (hx : x < N) : ng (ad i (ng x)) = ad x (ng i) := by
  rw [ng_ad G, ng_ng G hx, G.comm]
theorem diff_twice {x y : Nat} (hy : y < N) : ad x (ng (ad x (ng y))) = y := by
  rw [ng_ad G, ng_ng G hy, ← G.assoc, G.neg, G.comm, G.zero y hy]
/-- The counts of differences. -/
def corK (N : Nat) (ad : Nat → Nat → Nat) (B : Nat → Bool) (d : Nat) : Nat := sm (fun y => (B y).toNat * (B (ad y d)).toNat) N
theorem cor_diff (B : Nat → Bool) (i : Nat) : cor N ad ng B (fun z => B (ng z)) i = corK N ad B i := by
  unfold cor corK
  rw [← sm_shift G (fun x => (B x).toNat * (B (ng (ad i (ng x)))).toNat) i]
  refine sm_congr (fun y hy => ?_)
  show (B (ad y i)).toNat * (B (ng (ad i (ng (ad y i))))).toNat = _
  rw [diff_back G _ _ (G.lt _ _), ab_back G i hy, Nat.mul_comm]
/-- Pairs with one sum are as many as pairs with one difference. -/
theorem cor_sq (A B : Nat → Bool) : sm (fun s => cor N ad ng A B s * cor N ad ng A B s) N = sm (fun i => cor N ad ng A (fun z => A (ng z)) i * cor N ad ng B (fun z => B (ng z)) i) N := by
  have mid1 : sm (fun s => cor N ad ng A B s * cor N ad ng A B s) N = sm (fun x => sm (fun y => (A x).toNat * (A y).toNat * corK N ad B (ad x (ng y))) N) N := by
    have e1 : ∀ s, cor N ad ng A B s * cor N ad ng A B s = sm (fun x => sm (fun y => ((A x).toNat * (B (ad s (ng x))).toNat) * ((A y).toNat * (B (ad s (ng y))).toNat)) N) N := fun s => sm_prod _ _ N
    rw [sm_congr (fun s _ => e1 s), sm_swap]
    refine sm_congr (fun x _ => ?_)
    rw [sm_swap]
    refine sm_congr (fun y _ => ?_)
    have e2 : ∀ s, ((A x).toNat * (B (ad s (ng x))).toNat) * ((A y).toNat * (B (ad s (ng y))).toNat) = (A x).toNat * (A y).toNat * ((B (ad s (ng x))).toNat * (B (ad s (ng y))).toNat) := fun s => Nat.mul_mul_mul_comm _ _ _ _
    rw [sm_congr (fun s _ => e2 s), sm_mul]
    congr 1
    unfold corK
    rw [← sm_shift G (fun s => (B (ad s (ng x))).toNat * (B (ad s (ng y))).toNat) x]
    refine sm_congr (fun z hz => ?_)
    show (B (ad (ad z x) (ng x))).toNat * (B (ad (ad z x) (ng y))).toNat = _
    rw [ab_back G x hz, G.assoc]
  have mid2 : sm (fun i => cor N ad ng A (fun z => A (ng z)) i * cor N ad ng B (fun z => B (ng z)) i) N = sm (fun x => sm (fun y => (A x).toNat * (A y).toNat * corK N ad B (ad x (ng y))) N) N := by
    have e1 : ∀ i, i < N → cor N ad ng A (fun z => A (ng z)) i * cor N ad ng B (fun z => B (ng z)) i = sm (fun x => (A x).toNat * (A (ad x (ng i))).toNat * corK N ad B i) N := fun i _ => by
      rw [cor_diff G B i]
      unfold cor
      rw [sm_mulr]
      refine sm_congr (fun x hx => ?_)
      show (A x).toNat * (A (ng (ad i (ng x)))).toNat * _ = _
      rw [diff_back G x i hx]
    rw [sm_congr e1, sm_swap]
    refine sm_congr (fun x _ => ?_)
    rw [← sm_shift G (fun i => (A x).toNat * (A (ad x (ng i))).toNat * corK N ad B i) x, ← sm_neg G]
    refine sm_congr (fun y hy => ?_)
    show (A x).toNat * (A (ad x (ng (ad (ng y) x)))).toNat * corK N ad B (ad (ng y) x) = _
    rw [G.comm (ng y) x, diff_twice G hy]
  rw [mid1, mid2]
end
end Go.Proofs.YtfkleihnafeoeaaGreatDoor
