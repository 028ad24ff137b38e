/- The contracts of the program's own functions on groups: orders of elements. -/
import Derived.Test.YticgoodmfjjggaaDoorGrpMul
import Derived.ChangeKeysEq
import Derived.Laws.StructEq
namespace Go.Proofs.YticgoodmfjjggaaDoor
open Go.RowKit
set_option maxRecDepth 1000000
/-- What the order of an element is; 0 for no element. -/
def OrdX (l : List Int) (x : Int) (m : Nat) : Prop := (isE l x = true → IsOrd l x m) ∧ (isE l x = false → m = 0)
theorem ordX_ex (l : List Int) (x : Int) : ∃ m, OrdX l x m := by
  cases hx : isE l x with
  | false => exact ⟨0, (fun h => by rw [hx] at h; cases h), fun _ => rfl⟩
  | true =>
    obtain ⟨m, hm⟩ := isOrd_ex (ords_grp (isE_true hx).1) x
    exact ⟨m, fun _ => hm, (fun h => by rw [hx] at h; cases h)⟩
theorem set_trip {w : World} {b : Nat} {x y z x' y' z' : Value} {T : TypeId} (h : w.heap[b]? = some (.cells #[x, y, z] T (0, 0))) :
    (((w.setCell ⟨b, 0, none⟩ x').setCell ⟨b, 1, none⟩ y').setCell ⟨b, 2, none⟩ z').heap[b]? = some (.cells #[x', y', z'] T (0, 0)) := by
  rw [heap_setCell_same _ b 2 _ _ z' (heap_setCell_same _ b 1 _ _ y' (heap_setCell_same w b 0 _ _ x' h))]; rfl
theorem step_mod (u j p : Int) : (u * j % p + u) % p = u * (j + 1) % p := by
  rw [Int.emod_add_emod, Int.mul_add, Int.mul_one]
theorem triNe (a b c : Int) (w : World) : (binOp .neq 53 (tV a b c) (tV 0 0 0)).run Tryd.prog w = .ok (.bool (!(a == 0 && (b == 0 && c == 0)))) w := by
  obtain ⟨i0, hi, _, _, _⟩ := info_parts intInfo
  rw [run_neq_struct, show (10000 : Nat) = 9999 + 1 from rfl, run_equalIn_array w 9999 _ _ triArr hi]
  rw [show Tryd.prog.cellsOf 3 = 1 by kernel_rfl]
  simp [List.range_succ, Op.eqItems, part, isAgg, run_underlying Tryd.underlying3, run_equalIn_int w 9998 3 .i64 .i64 _ _ Tryd.underlying3]
  by_cases ha : a = 0 <;> by_cases hb : b = 0 <;> by_cases hc : c = 0 <;> simp [ha, hb, hc]
end Go.Proofs.YticgoodmfjjggaaDoor
