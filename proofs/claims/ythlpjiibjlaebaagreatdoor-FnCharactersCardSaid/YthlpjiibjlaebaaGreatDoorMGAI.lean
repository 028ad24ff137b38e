/- Merged: On GrpIn GrpFun GrpMul GrpOrd. -/
import Derived.Test.YthlpjiibjlaebaaGreatDoorMGAG
import Derived.Test.YthlpjiibjlaebaaGreatDoorMGAH
import Derived.Deep.RegionHeld3
import Derived.Deep.DeepCutAuto
import Derived.ChangeKeysEq
import Derived.Laws.StructEq
namespace Go.Proofs.YthlpjiibjlaebaaGreatDoor
open Go.RowKit
set_option maxRecDepth 1000000
/-- W keeps all that stood in W0. -/
def On (W0 W : World) : Prop := Below W0.heap.size W0 W
theorem On.step {W0 W W' : World} (o : On W0 W) (h : Below W.heap.size W W') : On W0 W' := Below.trans o (h.mono (Below.size o))
theorem On.drew {W0 W : World} (o : On W0 W) : On W0 W.drew := Below.drew o
theorem On.ints {W0 W : World} {a : Option Addr} {l : List Int} (o : On W0 W) (h : Ints W0 a l) : Ints W a l := h.below rfl o
theorem On.cell {W0 W : World} {p : Addr} {v : Value} (o : On W0 W) (h : W0.cell? p = some v) : W.cell? p = some v := keepC o (World.block_lt_of_cell? W0 _ h) h
theorem On.tab {W0 W : World} {B : Nat} (o : On W0 W) (hB : B ≤ W0.heap.size) (h : TabZ B W0) : TabZ B W := h.on (Below.mono o hB)
/-- What stands when a group has been drawn and laid into its variable. -/
theorem laid_of {w w0 w1 : World} {au : Option Addr} {cu B : Nat} {l : List Int} (hw : Below B w w0) (hB : B ≤ w0.heap.size) (ho : w1.ownsRow w0.heap.size 3 1 (.slice au l.length cu) l.length (l.map (Value.int .i64))) (hb : Below w0.heap.size w0 w1) :
    Below B w (w1.alloc (.cells #[.slice au l.length cu] 26)) ∧ Ints (w1.alloc (.cells #[.slice au l.length cu] 26)) au l ∧ (w1.alloc (.cells #[.slice au l.length cu] 26)).cell? ⟨w1.heap.size, 0, none⟩ = some (.slice au l.length cu) ∧ B ≤ (w1.alloc (.cells #[.slice au l.length cu] 26)).heap.size := by
  have h1 := hb.size
  refine ⟨(hw.trans (hb.mono hB)).trans ((Joins.below_alloc1 w1 _).mono (by omega)), own_ints' rfl (ho.alloc _), newC w1 _ _ rfl, by simp; omega⟩
theorem CodeIn.keep {w w' : World} {a : Option Addr} {len : Nat} (h : CodeIn w a len) (hb : Below w.heap.size w w') : CodeIn w' a len := h.below hb
end Go.Proofs.YthlpjiibjlaebaaGreatDoor

namespace Go.Proofs.YthlpjiibjlaebaaGreatDoor
open Go.RowKit
set_option maxRecDepth 1000000
theorem keepH {B k : Nat} {w w' : World} {o : Obj} (hb : Below B w w') (hk : k < B) (h : w.heap[k]? = some o) : w'.heap[k]? = some o := (hb.block k hk).trans h
end Go.Proofs.YthlpjiibjlaebaaGreatDoor

namespace Go.Proofs.YthlpjiibjlaebaaGreatDoor
open Go.RowKit
set_option maxRecDepth 1000000
theorem ord0 {l : List Int} : (0 < l.length → l.getD 0 0 = l.getD 0 1) ∧ (l.length ≤ 0 → l.getD 0 1 = 1) := by
  cases l <;> simp
theorem ord1 {l : List Int} : (1 < l.length → l.getD 1 0 = l.getD 1 1) ∧ (l.length ≤ 1 → l.getD 1 1 = 1) := by
  match l with
  | [] => simp
  | [_] => simp
  | _ :: _ :: _ => simp
theorem ord2 {l : List Int} : (2 < l.length → l.getD 2 0 = l.getD 2 1) ∧ (l.length ≤ 2 → l.getD 2 1 = 1) := by
  match l with
  | [] => simp
  | [_] => simp
  | [_, _] => simp
  | _ :: _ :: _ :: _ => simp
theorem PK_1 {l : List Int} (h : 1 ≤ l.length) : PK l 1 = l.getD 0 1 := by
  match l, h with
  | _ :: _, _ => simp [PK, prodI]
theorem PK_2 {l : List Int} (h : 2 ≤ l.length) : PK l 2 = l.getD 0 1 * l.getD 1 1 := by
  match l, h with
  | _ :: _ :: _, _ => simp [PK, prodI]
/-- A value by its three places. -/
theorem val_tri {l : List Int} (hl : l.length ≤ 3) (f : Nat → Int) (f0 f1 f2 : Int) (h0 : 0 < l.length → f 0 = f0) (h1 : 1 < l.length → f 1 = f1) (h2 : 2 < l.length → f 2 = f2)
    (z0 : l.length ≤ 0 → f0 = 0) (z1 : l.length ≤ 1 → f1 = 0) (z2 : l.length ≤ 2 → f2 = 0) : valK l f l.length = f0 + l.getD 0 1 * f1 + l.getD 0 1 * l.getD 1 1 * f2 := by
  match l, hl with
  | [], _ => simp at *; simp [valK, z0, z1, z2]
  | [a], _ => simp at *; simp [valK, PK, prodI, h0, z1, z2]
  | [a, b], _ => simp at *; simp [valK, PK, prodI, h0, h1, z2, Int.mul_comm]
  | [a, b, c], _ => simp at *; simp [valK, PK, prodI, h0, h1, h2, Int.mul_comm]
  | _ :: _ :: _ :: _ :: _, h => simp at h
theorem tdig0 {l : List Int} (x : Int) (h : 0 < l.length) : dig l x 0 = x % l.getD 0 1 := by
  unfold dig; rw [PK_zero, Int.ediv_one, ord0.1 h]
theorem tdig1 {l : List Int} (x : Int) (h : 1 < l.length) : dig l x 1 = x / l.getD 0 1 % l.getD 1 1 := by
  unfold dig; rw [PK_1 (by omega), ord1.1 h]
theorem tdig2 {l : List Int} (x : Int) (h : 2 < l.length) (hp : 0 ≤ l.getD 0 1) : dig l x 2 = x / l.getD 0 1 / l.getD 1 1 % l.getD 2 1 := by
  unfold dig; rw [PK_2 (by omega), ord2.1 h, Int.ediv_ediv_of_nonneg hp]
theorem one_mod {c x : Int} (h : c = 1) : x % c = 0 := by rw [h, Int.emod_one]
theorem add_tri {l : List Int} (hl : l.length ≤ 3) (x y : Int) (hp : 0 ≤ l.getD 0 1) : addN l x y =
    (x % l.getD 0 1 + y % l.getD 0 1) % l.getD 0 1 + l.getD 0 1 * ((x / l.getD 0 1 % l.getD 1 1 + y / l.getD 0 1 % l.getD 1 1) % l.getD 1 1) + l.getD 0 1 * l.getD 1 1 * ((x / l.getD 0 1 / l.getD 1 1 % l.getD 2 1 + y / l.getD 0 1 / l.getD 1 1 % l.getD 2 1) % l.getD 2 1) :=
  val_tri hl _ _ _ _ (fun h => by rw [sdig_eq, tdig0 x h, tdig0 y h, ord0.1 h]) (fun h => by rw [sdig_eq, tdig1 x h, tdig1 y h, ord1.1 h]) (fun h => by rw [sdig_eq, tdig2 x h hp, tdig2 y h hp, ord2.1 h])
    (fun h => one_mod (ord0.2 h)) (fun h => one_mod (ord1.2 h)) (fun h => one_mod (ord2.2 h))
theorem mul_tri {l : List Int} (hl : l.length ≤ 3) (x k : Int) (hp : 0 ≤ l.getD 0 1) : mulN l x k =
    x % l.getD 0 1 * k % l.getD 0 1 + l.getD 0 1 * (x / l.getD 0 1 % l.getD 1 1 * k % l.getD 1 1) + l.getD 0 1 * l.getD 1 1 * (x / l.getD 0 1 / l.getD 1 1 % l.getD 2 1 * k % l.getD 2 1) :=
  val_tri hl _ _ _ _ (fun h => by unfold mulF; rw [tdig0 x h, ord0.1 h]) (fun h => by unfold mulF; rw [tdig1 x h, ord1.1 h]) (fun h => by unfold mulF; rw [tdig2 x h hp, ord2.1 h])
    (fun h => one_mod (ord0.2 h)) (fun h => one_mod (ord1.2 h)) (fun h => one_mod (ord2.2 h))
theorem emod_b {a c : Int} (h : 1 ≤ c) : 0 ≤ a % c ∧ a % c < c := ⟨Int.emod_nonneg _ (by omega), Int.emod_lt_of_pos _ (by omega)⟩
/-- What placesIn answers. -/
def InPost (l : List Int) (x : Int) (w : World) (e : Ending) (w' : World) : Prop :=
  ∃ p q r u v s, e = .returned (.tuple #[tV p q r, tV u v s, .bool (isE l x)]) ∧ (isE l x = true → p = l.getD 0 1 ∧ q = l.getD 1 1 ∧ r = l.getD 2 1 ∧ u = x % l.getD 0 1 ∧ v = x / l.getD 0 1 % l.getD 1 1 ∧ s = x / l.getD 0 1 / l.getD 1 1 % l.getD 2 1) ∧ Below w.heap.size w w'
end Go.Proofs.YthlpjiibjlaebaaGreatDoor

namespace Go.Proofs.YthlpjiibjlaebaaGreatDoor
open Go.RowKit
set_option maxRecDepth 1000000
theorem prod_bnd {t c k : Int} (h0 : 0 ≤ t) (h1 : t < c) (hc : c ≤ 24) (k1 : -100 ≤ k) (k2 : k ≤ 100) : -2300 ≤ t * k ∧ t * k ≤ 2300 := by
  have a1 : t * k ≤ t * 100 := Int.mul_le_mul_of_nonneg_left k2 h0
  have a2 : t * -100 ≤ t * k := Int.mul_le_mul_of_nonneg_left k1 h0
  omega
theorem tmod_bnd (a : Int) {c : Int} (h : 1 ≤ c) : -c < a.tmod c ∧ a.tmod c < c := by
  have := Int.tmod_lt_of_pos a (show 0 < c by omega)
  have h2 := Int.tmod_lt_of_pos (-a) (show 0 < c by omega)
  rw [Int.neg_tmod] at h2
  omega
theorem tmod_fix (a c : Int) : a.tmod c % c = a % c := by
  have h1 := Int.mul_tdiv_add_tmod a c
  calc a.tmod c % c = (c * a.tdiv c + a.tmod c) % c := by rw [Int.mul_add_emod_self_left]
    _ = a % c := by rw [h1]
end Go.Proofs.YthlpjiibjlaebaaGreatDoor

namespace Go.Proofs.YthlpjiibjlaebaaGreatDoor
open Go.RowKit
set_option maxRecDepth 1000000
/-- What the order of an element is; 0 for no element. -/
def OrdX (l : List Int) (x : Int) (m : Nat) : Prop := (isE l x = true → IsOrd l x m) ∧ (isE l x = false → m = 0)
theorem ordX_ex (l : List Int) (x : Int) : ∃ m, OrdX l x m := by
  cases hx : isE l x with
  | false => exact ⟨0, (fun h => by rw [hx] at h; cases h), fun _ => rfl⟩
  | true =>
    obtain ⟨m, hm⟩ := isOrd_ex (ords_grp (isE_true hx).1) x
    exact ⟨m, fun _ => hm, (fun h => by rw [hx] at h; cases h)⟩
theorem set_trip {w : World} {b : Nat} {x y z x' y' z' : Value} {T : TypeId} (h : w.heap[b]? = some (.cells #[x, y, z] T (0, 0))) :
    (((w.setCell ⟨b, 0, none⟩ x').setCell ⟨b, 1, none⟩ y').setCell ⟨b, 2, none⟩ z').heap[b]? = some (.cells #[x', y', z'] T (0, 0)) := by
  rw [heap_setCell_same _ b 2 _ _ z' (heap_setCell_same _ b 1 _ _ y' (heap_setCell_same w b 0 _ _ x' h))]; rfl
theorem step_mod (u j p : Int) : (u * j % p + u) % p = u * (j + 1) % p := by
  rw [Int.emod_add_emod, Int.mul_add, Int.mul_one]
theorem triNe (a b c : Int) (w : World) : (binOp .neq 46 (tV a b c) (tV 0 0 0)).run Tryz.prog w = .ok (.bool (!(a == 0 && (b == 0 && c == 0)))) w := by
  obtain ⟨i0, hi, _, _, _⟩ := info_parts intInfo
  rw [run_neq_struct, show (10000 : Nat) = 9999 + 1 from rfl, run_equalIn_array w 9999 _ _ triArr hi]
  rw [show Tryz.prog.cellsOf 3 = 1 by kernel_rfl]
  simp [List.range_succ, Op.eqItems, part, isAgg, run_underlying Tryz.underlying3, run_equalIn_int w 9998 3 .i64 .i64 _ _ Tryz.underlying3]
  by_cases ha : a = 0 <;> by_cases hb : b = 0 <;> by_cases hc : c = 0 <;> simp [ha, hb, hc]
end Go.Proofs.YthlpjiibjlaebaaGreatDoor
