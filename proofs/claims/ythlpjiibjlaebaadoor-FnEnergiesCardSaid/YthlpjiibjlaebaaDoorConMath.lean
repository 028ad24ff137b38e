/- Products of tables as numbers. -/
import Derived.Test.YthlpjiibjlaebaaDoorEnMath
namespace Go.Proofs.YthlpjiibjlaebaaDoor
def tOk (x : Int) : Bool := decide (-10000 ≤ x) && decide (x ≤ 10000)
def tbB (l p : List Int) : Bool := (p.all fun x => tOk x) && (grpB l && decide ((p.length : Int) = prodI l))
theorem tbB_no {l p : List Int} {k : Nat} (hk : k < p.length) (h : tOk (p.getD k 0) = false) : tbB l p = false := by
  have : (p.all fun x => tOk x) = false := by
    rw [List.all_eq_false]
    exact ⟨p.getD k 0, by simp [List.getD, hk], by rw [h]; simp⟩
  unfold tbB
  rw [this]
  rfl
theorem tbB_all {l p : List Int} (h : ∀ k, k < p.length → tOk (p.getD k 0) = true) : tbB l p = (grpB l && decide ((p.length : Int) = prodI l)) := by
  have : (p.all fun x => tOk x) = true := by
    rw [List.all_eq_true]
    intro x hx
    obtain ⟨k, hk, rfl⟩ := List.getElem_of_mem hx
    have := h k hk
    simpa [List.getD, hk] using this
  unfold tbB
  rw [this]
  rfl
theorem tbB_yes {l p : List Int} (h : tbB l p = true) : (∀ k, k < p.length → -10000 ≤ p.getD k 0 ∧ p.getD k 0 ≤ 10000) ∧ grpB l = true ∧ (p.length : Int) = prodI l := by
  unfold tbB at h
  simp only [Bool.and_eq_true, decide_eq_true_eq, List.all_eq_true] at h
  refine ⟨fun k hk => ?_, h.2.1, h.2.2⟩
  have h1 := h.1 (p.getD k 0) (by simp [List.getD, hk])
  unfold tOk at h1
  simpa using h1
/-- One product is added at the sum of its places. -/
def cvS (l p q : List Int) (i k : Nat) (f : Nat → Int) : Nat → Int := fun z => f z + (if (addN l (i : Int) (k : Int)).toNat = z then p.getD i 0 * q.getD k 0 else 0)
def cvI (l p q : List Int) (i : Nat) (f : Nat → Int) : Nat → Nat → Int
  | 0 => f
  | k + 1 => cvS l p q i k (cvI l p q i f k)
def cvO (l p q : List Int) (N : Nat) : Nat → Nat → Int
  | 0 => fun _ => 0
  | i + 1 => cvI l p q i (cvO l p q N i) N
def zrow (f : Nat → Int) (n : Nat) : List Int := (List.range n).map f
theorem zrow_len (f : Nat → Int) (n : Nat) : (zrow f n).length = n := by simp [zrow]
theorem zrow_at (f : Nat → Int) (n k : Nat) (h : k < n) : (zrow f n).getD k 0 = f k := by simp [zrow, List.getD, h]
theorem prod_bnd8 {x y : Int} (x1 : -10000 ≤ x) (x2 : x ≤ 10000) (y1 : -10000 ≤ y) (y2 : y ≤ 10000) : -100000000 ≤ x * y ∧ x * y ≤ 100000000 := by
  have h : (x * y).natAbs ≤ 10000 * 10000 := by
    rw [Int.natAbs_mul]
    exact Nat.mul_le_mul (by omega) (by omega)
  omega
theorem cvI_bnd {l p q : List Int} (hp : ∀ k, k < p.length → -10000 ≤ p.getD k 0 ∧ p.getD k 0 ≤ 10000) (hq : ∀ k, k < q.length → -10000 ≤ q.getD k 0 ∧ q.getD k 0 ≤ 10000) {i : Nat} (hi : i < p.length) {f : Nat → Int} {B : Int} (hf : ∀ z, -B ≤ f z ∧ f z ≤ B) : ∀ k, k ≤ q.length → ∀ z, -(B + k * 100000000) ≤ cvI l p q i f k z ∧ cvI l p q i f k z ≤ B + k * 100000000
  | 0, _, z => by have := hf z; simp only [cvI]; omega
  | k + 1, hk, z => by
    have h := cvI_bnd (l := l) hp hq hi hf k (by omega) z
    have h2 := prod_bnd8 (hp i hi).1 (hp i hi).2 (hq k (by omega)).1 (hq k (by omega)).2
    simp only [cvI, cvS]
    split <;> omega
theorem cvO_bnd {l p q : List Int} (hp : ∀ k, k < p.length → -10000 ≤ p.getD k 0 ∧ p.getD k 0 ≤ 10000) (hq : ∀ k, k < q.length → -10000 ≤ q.getD k 0 ∧ q.getD k 0 ≤ 10000) {N : Nat} (hN : N ≤ q.length) (h24 : N ≤ 24) : ∀ i, i ≤ p.length → ∀ z, -((i : Int) * 2400000000) ≤ cvO l p q N i z ∧ cvO l p q N i z ≤ (i : Int) * 2400000000
  | 0, _, z => by simp [cvO]
  | i + 1, hi, z => by
    have h := cvO_bnd (l := l) hp hq hN h24 i (by omega)
    have := cvI_bnd (l := l) hp hq (show i < p.length by omega) h N hN z
    simp only [cvO]
    omega
theorem cvI_all {l p q : List Int} (hp : ∀ k, k < p.length → -10000 ≤ p.getD k 0 ∧ p.getD k 0 ≤ 10000) (hq : ∀ k, k < q.length → -10000 ≤ q.getD k 0 ∧ q.getD k 0 ≤ 10000) {N : Nat} (hN : N = q.length) (hM : N = p.length) (h24 : N ≤ 24) (i k : Nat) (hi : i < N) (hk : k ≤ N) (z : Nat) : -100000000000 ≤ cvI l p q i (cvO l p q N i) k z ∧ cvI l p q i (cvO l p q N i) k z ≤ 100000000000 := by
  have h := cvO_bnd (l := l) hp hq (N := N) (by omega) h24 i (by omega)
  have := cvI_bnd (l := l) hp hq (show i < p.length by omega) h k (by omega) z
  omega
def cvB (l p q : List Int) : Bool := tbB l p && tbB l q
def cvE (l p q : List Int) : List Int := if cvB l p q = true then zrow (cvO l p q p.length p.length) p.length else []
theorem cvE_len (l p q : List Int) : (cvE l p q).length ≤ 24 := by
  unfold cvE
  split
  · next h =>
    unfold cvB at h
    rw [Bool.and_eq_true] at h
    obtain ⟨_, hg, hl⟩ := tbB_yes h.1
    have := (ords_grp hg).prod
    rw [zrow_len]
    omega
  · simp
/-- The sum of a product is the product of the sums. -/
theorem cvI_sum {l p q : List Int} (ho : Ords l) (i : Nat) (f : Nat → Int) : ∀ k, accN (cvI l p q i f k) (prodI l).toNat = accN f (prodI l).toNat + p.getD i 0 * accN (fun j => q.getD j 0) k
  | 0 => by simp [cvI, accN]
  | k + 1 => by
    have hv := addN_in ho (i : Int) (k : Int)
    have hlt : (addN l (i : Int) (k : Int)).toNat < (prodI l).toNat := by omega
    have e : accN (cvI l p q i f (k + 1)) (prodI l).toNat = accN (fun z => cvI l p q i f k z + (if (addN l (i : Int) (k : Int)).toNat = z then (fun _ => p.getD i 0 * q.getD k 0) z else 0)) (prodI l).toNat := rfl
    rw [e, accN_add, accN_one, if_pos hlt, cvI_sum ho i f k]
    simp only [accN]
    rw [Int.mul_add]
    omega
theorem cvO_sum {l p q : List Int} (ho : Ords l) (N : Nat) : ∀ i, accN (cvO l p q N i) (prodI l).toNat = accN (fun j => p.getD j 0) i * accN (fun j => q.getD j 0) N
  | 0 => by simp only [cvO, accN]; rw [accN_zero]; simp
  | i + 1 => by
    simp only [cvO, accN]
    rw [cvI_sum ho, cvO_sum ho N i, Int.add_mul]
end Go.Proofs.YthlpjiibjlaebaaDoor
