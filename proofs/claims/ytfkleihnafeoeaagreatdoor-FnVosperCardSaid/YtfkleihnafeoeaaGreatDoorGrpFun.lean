/- The contracts of the program's own functions on groups: sums, multiples, negatives and orders of elements. -/
import Derived.Test.YtfkleihnafeoeaaGreatDoorGrpIn
import Derived.Deep.RegionHeld3
import Derived.Deep.DeepCutAuto
namespace Go.Proofs.YtfkleihnafeoeaaGreatDoor
open Go.RowKit
set_option maxRecDepth 1000000
theorem ord0 {l : List Int} : (0 < l.length → l.getD 0 0 = l.getD 0 1) ∧ (l.length ≤ 0 → l.getD 0 1 = 1) := by
  cases l <;> simp
theorem ord1 {l : List Int} : (1 < l.length → l.getD 1 0 = l.getD 1 1) ∧ (l.length ≤ 1 → l.getD 1 1 = 1) := by
  match l with
  | [] => simp
  | [_] => simp
  | _ :: _ :: _ => simp
theorem ord2 {l : List Int} : (2 < l.length → l.getD 2 0 = l.getD 2 1) ∧ (l.length ≤ 2 → l.getD 2 1 = 1) := by
  match l with
  | [] => simp
  | [_] => simp
  | [_, _] => simp
  | _ :: _ :: _ :: _ => simp
theorem PK_1 {l : List Int} (h : 1 ≤ l.length) : PK l 1 = l.getD 0 1 := by
  match l, h with
  | _ :: _, _ => simp [PK, prodI]
theorem PK_2 {l : List Int} (h : 2 ≤ l.length) : PK l 2 = l.getD 0 1 * l.getD 1 1 := by
  match l, h with
  | _ :: _ :: _, _ => simp [PK, prodI]
/-- A value by its three places. -/
theorem val_tri {l : List Int} (hl : l.length ≤ 3) (f : Nat → Int) (f0 f1 f2 : Int) (h0 : 0 < l.length → f 0 = f0) (h1 : 1 < l.length → f 1 = f1) (h2 : 2 < l.length → f 2 = f2)
    (z0 : l.length ≤ 0 → f0 = 0) (z1 : l.length ≤ 1 → f1 = 0) (z2 : l.length ≤ 2 → f2 = 0) : valK l f l.length = f0 + l.getD 0 1 * f1 + l.getD 0 1 * l.getD 1 1 * f2 := by
  match l, hl with
  | [], _ => simp at *; simp [valK, z0, z1, z2]
  | [a], _ => simp at *; simp [valK, PK, prodI, h0, z1, z2]
  | [a, b], _ => simp at *; simp [valK, PK, prodI, h0, h1, z2, Int.mul_comm]
  | [a, b, c], _ => simp at *; simp [valK, PK, prodI, h0, h1, h2, Int.mul_comm]
  | _ :: _ :: _ :: _ :: _, h => simp at h
theorem tdig0 {l : List Int} (x : Int) (h : 0 < l.length) : dig l x 0 = x % l.getD 0 1 := by
  unfold dig; rw [PK_zero, Int.ediv_one, ord0.1 h]
theorem tdig1 {l : List Int} (x : Int) (h : 1 < l.length) : dig l x 1 = x / l.getD 0 1 % l.getD 1 1 := by
  unfold dig; rw [PK_1 (by omega), ord1.1 h]
theorem tdig2 {l : List Int} (x : Int) (h : 2 < l.length) (hp : 0 ≤ l.getD 0 1) : dig l x 2 = x / l.getD 0 1 / l.getD 1 1 % l.getD 2 1 := by
  unfold dig; rw [PK_2 (by omega), ord2.1 h, Int.ediv_ediv_of_nonneg hp]
theorem one_mod {c x : Int} (h : c = 1) : x % c = 0 := by rw [h, Int.emod_one]
theorem add_tri {l : List Int} (hl : l.length ≤ 3) (x y : Int) (hp : 0 ≤ l.getD 0 1) : addN l x y =
    (x % l.getD 0 1 + y % l.getD 0 1) % l.getD 0 1 + l.getD 0 1 * ((x / l.getD 0 1 % l.getD 1 1 + y / l.getD 0 1 % l.getD 1 1) % l.getD 1 1) + l.getD 0 1 * l.getD 1 1 * ((x / l.getD 0 1 / l.getD 1 1 % l.getD 2 1 + y / l.getD 0 1 / l.getD 1 1 % l.getD 2 1) % l.getD 2 1) :=
  val_tri hl _ _ _ _ (fun h => by rw [sdig_eq, tdig0 x h, tdig0 y h, ord0.1 h]) (fun h => by rw [sdig_eq, tdig1 x h, tdig1 y h, ord1.1 h]) (fun h => by rw [sdig_eq, tdig2 x h hp, tdig2 y h hp, ord2.1 h])
    (fun h => one_mod (ord0.2 h)) (fun h => one_mod (ord1.2 h)) (fun h => one_mod (ord2.2 h))
theorem mul_tri {l : List Int} (hl : l.length ≤ 3) (x k : Int) (hp : 0 ≤ l.getD 0 1) : mulN l x k =
    x % l.getD 0 1 * k % l.getD 0 1 + l.getD 0 1 * (x / l.getD 0 1 % l.getD 1 1 * k % l.getD 1 1) + l.getD 0 1 * l.getD 1 1 * (x / l.getD 0 1 / l.getD 1 1 % l.getD 2 1 * k % l.getD 2 1) :=
  val_tri hl _ _ _ _ (fun h => by unfold mulF; rw [tdig0 x h, ord0.1 h]) (fun h => by unfold mulF; rw [tdig1 x h, ord1.1 h]) (fun h => by unfold mulF; rw [tdig2 x h hp, ord2.1 h])
    (fun h => one_mod (ord0.2 h)) (fun h => one_mod (ord1.2 h)) (fun h => one_mod (ord2.2 h))
theorem emod_b {a c : Int} (h : 1 ≤ c) : 0 ≤ a % c ∧ a % c < c := ⟨Int.emod_nonneg _ (by omega), Int.emod_lt_of_pos _ (by omega)⟩
/-- What placesIn answers. -/
def InPost (l : List Int) (x : Int) (w : World) (e : Ending) (w' : World) : Prop :=
  ∃ p q r u v s, e = .returned (.tuple #[tV p q r, tV u v s, .bool (isE l x)]) ∧ (isE l x = true → p = l.getD 0 1 ∧ q = l.getD 1 1 ∧ r = l.getD 2 1 ∧ u = x % l.getD 0 1 ∧ v = x / l.getD 0 1 % l.getD 1 1 ∧ s = x / l.getD 0 1 / l.getD 1 1 % l.getD 2 1) ∧ Below w.heap.size w w'
theorem iIn (w : World) (a : Option Addr) (l : List Int) (n cap : Nat) (x : Int) (hn : n = l.length) (hm : n ≤ 9223372036854775807) (hi : Ints w a l) :
    Calls Tryz.prog 51 #[.agg #[.slice a n cap], .int .i64 x] w (InPost l x w) := by
  unfold InPost
  cases hx : isE l x with
  | false => exact (iIn_no w a l n cap x hn hm hi hx).mono fun e w' ⟨he, hb⟩ => ⟨0, 0, 0, 0, 0, 0, he, (fun h => by cases h), hb⟩
  | true => exact (iIn_yes w a l n cap x hn hm hi hx).mono fun e w' ⟨he, hb⟩ => ⟨_, _, _, _, _, _, he, fun _ => ⟨rfl, rfl, rfl, rfl, rfl, rfl⟩, hb⟩
end Go.Proofs.YtfkleihnafeoeaaGreatDoor
