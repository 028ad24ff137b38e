/- Ahead of stage 7: division by polynomials whose last coefficient is 1, cyclotomic polynomials, and which even spreads they divide. -/
import Derived.Test.YthlpjiibjlaebaaChaMath
namespace Go.Proofs.Ythlpjiibjlaebaa
/-- f times d, taken off behind the place i: the first k steps. -/
def subP7 (d : List Int) (i : Nat) (f : Int) (r : List Int) : Nat → List Int
  | 0 => r
  | k + 1 => (subP7 d i f r k).set (i + k) ((subP7 d i f r k).getD (i + k) 0 - f * d.getD k 0)
/-- The remainder after j rounds: the places go down. -/
def restR (p d : List Int) : Nat → List Int
  | 0 => p
  | j + 1 => subP7 d (p.length - d.length - j) ((restR p d j).getD (p.length - d.length - j + d.length - 1) 0) (restR p d j) d.length
/-- How many rounds there are. -/
def rounds7 (p d : List Int) : Nat := p.length + 1 - d.length
def restP (p d : List Int) : List Int := restR p d (rounds7 p d)
/-- The quotient's numbers after j rounds. -/
def quotR (p d : List Int) : Nat → List Int
  | 0 => List.replicate (rounds7 p d) 0
  | j + 1 => (quotR p d j).set (p.length - d.length - j) ((restR p d j).getD (p.length - d.length - j + d.length - 1) 0)
def quotP (p d : List Int) : List Int := quotR p d (rounds7 p d)
/-- The polynomial X to the n minus 1. -/
def xn1 (n : Nat) : List Int := ((List.replicate (n + 1) 0).set 0 (-1)).set n 1
/-- It, divided by the earlier ones whose numbers divide n, below k. -/
def cycK (C : Nat → List Int) (n : Nat) : Nat → List Int
  | 0 => xn1 n
  | k + 1 => if k = 0 then cycK C n k else if n % k = 0 then quotP (cycK C n k) (C k) else cycK C n k
def cycF : Nat → Nat → List Int
  | 0, _ => []
  | f + 1, n => cycK (cycF f) n n
/-- The cyclotomic polynomial of a number. -/
def cycL (n : Nat) : List Int := cycF (n + 1) n
/-- 1 at the multiples of g below e. -/
def sprL (g e : Nat) : List Int := (List.range e).map fun i => if i % g = 0 then 1 else 0
def allZ (r : List Int) : Bool := r.all fun x => x == 0
def polB : Bool := (List.range 25).all fun e => (List.range 25).all fun g => e == 0 || g == 0 || e % g != 0 || (allZ (restP (sprL g e) (cycL e)) == (g != e))
set_option maxRecDepth 100000 in
theorem pol_all : polB = true := by decide +kernel
theorem pol_spr {g e : Nat} (he : 0 < e) (h24 : e ≤ 24) (hg : 0 < g) (hd : e % g = 0) : allZ (restP (sprL g e) (cycL e)) = (g != e) := by
  have hge : g ≤ e := Nat.le_of_dvd he (Nat.dvd_of_mod_eq_zero hd)
  have h := List.all_eq_true.1 (List.all_eq_true.1 pol_all e (List.mem_range.2 (by omega))) g (List.mem_range.2 (by omega))
  have h1 : (e == 0) = false := by simp; omega
  have h2 : (g == 0) = false := by simp; omega
  have h3 : (e % g != 0) = false := by rw [hd]; rfl
  rw [h1, h2, h3, Bool.false_or, Bool.false_or, Bool.false_or, beq_iff_eq] at h
  exact h
theorem getD_smul (c : Int) (r : List Int) (j : Nat) : (r.map fun x => c * x).getD j 0 = c * r.getD j 0 := by
  by_cases h : j < r.length
  · simp [List.getD, h]
  · simp [List.getD, h]
theorem subP7_smul (c : Int) (d : List Int) (i : Nat) (f : Int) (r : List Int) : ∀ k, subP7 d i (c * f) (r.map fun x => c * x) k = (subP7 d i f r k).map fun x => c * x
  | 0 => rfl
  | k + 1 => by
    unfold subP7
    rw [subP7_smul c d i f r k, getD_smul, List.map_set]
    congr 1
    rw [Int.mul_sub, Int.mul_assoc]
theorem restR_smul (c : Int) (p d : List Int) : ∀ j, restR (p.map fun x => c * x) d j = (restR p d j).map fun x => c * x
  | 0 => rfl
  | j + 1 => by
    unfold restR
    rw [restR_smul c p d j, List.length_map, getD_smul, subP7_smul]
theorem restP_smul (c : Int) (p d : List Int) : restP (p.map fun x => c * x) d = (restP p d).map fun x => c * x := by
  unfold restP rounds7
  rw [List.length_map, restR_smul]
theorem allZ_smul {c : Int} (hc : c ≠ 0) (r : List Int) : allZ (r.map fun x => c * x) = allZ r := by
  unfold allZ
  rw [List.all_map]
  congr 1
  funext x
  show (c * x == 0) = (x == 0)
  by_cases h : x = 0
  · subst h; simp
  · have h1 : (x == 0) = false := by simpa using h
    rw [h1]
    simp [hc, h]
/-- An even spread of c at the multiples of g: its remainder is 0 just if it is no single place. -/
theorem pol_even {g e : Nat} {c : Int} (he : 0 < e) (h24 : e ≤ 24) (hg : 0 < g) (hd : e % g = 0) (hc : c ≠ 0) : allZ (restP ((sprL g e).map fun x => c * x) (cycL e)) = (g != e) := by
  rw [restP_smul, allZ_smul hc, pol_spr he h24 hg hd]
end Go.Proofs.Ythlpjiibjlaebaa
