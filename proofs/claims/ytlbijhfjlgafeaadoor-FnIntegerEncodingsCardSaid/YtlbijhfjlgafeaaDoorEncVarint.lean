/- The contracts of spec.EncodeVarint and impl.EncodeVarint: both answer the same bytes at every int. -/
import Derived.Test.YtlbijhfjlgafeaaDoorBytes
import Derived.Test.YtlbijhfjlgafeaaDoorDecFixed
namespace Go.Proofs.YtlbijhfjlgafeaaDoor
open Go.RowKit
def vint (n : Nat) : List UInt8 := if n < 128 then [UInt8.ofNat n] else UInt8.ofNat (128 + n % 128) :: vint (n / 128)
theorem vint_small (n : Nat) (h : n < 128) : vint n = [UInt8.ofNat n] := by rw [vint, if_pos h]
theorem vint_step (n : Nat) (h : ¬ n < 128) : vint n = UInt8.ofNat (128 + n % 128) :: vint (n / 128) := by rw [vint, if_neg h]
theorem vint_snoc (N : Nat) (d : List UInt8) (j : Nat) (h : vint N = d ++ vint j) (hj : ¬ j < 128) : vint N = (d ++ [UInt8.ofNat (128 + j % 128)]) ++ vint (j / 128) := by
  rw [h, vint_step j hj]; simp
theorem or128 (j : Nat) : bits .or .u8 (bits .and .i64 (j : Int) 127 % 256) 128 = (128 + (j : Int) % 128) % 256 := by
  rw [i64_and127, u8_or128_right _ (by omega) (by omega)]; omega
set_option maxHeartbeats 1000000 in
set_option maxRecDepth 1000000 in
theorem ienc_any (N : Nat) (w : World) (hN : N ≤ 562949953421311) :
    Calls Tryd.prog 9 #[.int .i64 N] w fun e w' => e = .returned (strV (vint N)) ∧ Below w.heap.size w w' := by
  obtain ⟨i0, hi, hz0, hz1, hz2⟩ := info_parts byteInfo
  go_enter Tryd.func9, Tryd.ntmps9
  go_wp2
  go_loopw [0, 3] (fun n v wr => ∃ (j : Nat) (d : List UInt8), n = .int .i64 j ∧ j ≤ N ∧ d.length * 100 + j ≤ N ∧ wr.ownsRow w.heap.size 5 1 v d.length (d.map byteV) ∧ Below w.heap.size w wr ∧ Hid (vint N = d ++ vint j)) (fun n _ _ => (intOf n).toNat)
  case atStart => exact ⟨N, [], rfl, Nat.le_refl _, by simp, World.ownsRow_nil _ _ _ _, Below.refl _ _, Lib.hid rfl⟩
  case round =>
    obtain ⟨j, d, rfl, hj, hd, hown, hbel, HV⟩ := hrel
    by_cases hlt : j < 128
    · go_wp2_with (at_builtin; refine wpList_append_own _ rfl _ _ 22 rfl w.heap.size 5 i0 (.int .u8 0) 1 1 Tryd.underlying22 hi hz0 hz1 hz2 rfl (by decide) _ _ _ rfl (hown.alloc _) ⟨wr.heap.size, 0, none⟩ 1 1 [byteV (UInt8.ofNat j)] rfl rfl ?c1a ?c2a ?c3a ?c4a ?c5a ?_)
      case c1a =>
        intro q u hq
        match q, hq with
        | 0, hq => simp at hq; subst hq; simp [Addr.add, byteV]; omega
      case c2a => intro u hu; simp at hu; subst hu; rfl
      case c3a => unfold maxLen; omega
      case c4a => omega
      case c5a => have := hbel.size; simp; omega
      intro v' w1 hown' hgrow _
      have hown2 : w1.ownsRow w.heap.size 5 1 v' (d ++ [UInt8.ofNat j]).length ((d ++ [UInt8.ofNat j]).map byteV) := by simpa using hown'
      have hbel1 : Below w.heap.size w w1 := (hbel.alloc (by have := hbel.size; omega) _).grown hgrow (by have := hbel.size; simp; omega) (fun q hq => (hown.lt q hq).1)
      have hconv := conv_own hown2
      clear hown2 hown' hgrow
      go_wp2
      go_ret
      exact ⟨by rw [HV.out, vint_small j hlt]; rfl, hbel1⟩
    · go_wp2_with (at_builtin; refine wpList_append_own _ rfl _ _ 22 rfl w.heap.size 5 i0 (.int .u8 0) 1 1 Tryd.underlying22 hi hz0 hz1 hz2 rfl (by decide) _ _ _ rfl (hown.alloc _) ⟨wr.heap.size, 0, none⟩ 1 1 [byteV (UInt8.ofNat (128 + j % 128))] rfl rfl ?c1b ?c2b ?c3b ?c4b ?c5b ?_)
      case c1b =>
        intro q u hq
        match q, hq with
        | 0, hq => simp at hq; subst hq; simp [Addr.add, byteV]; exact or128 j
      case c2b => intro u hu; simp at hu; subst hu; rfl
      case c3b => unfold maxLen; omega
      case c4b => omega
      case c5b => have := hbel.size; simp; omega
      intro v' w1 hown' hgrow _
      have hown2 : w1.ownsRow w.heap.size 5 1 v' (d ++ [UInt8.ofNat (128 + j % 128)]).length ((d ++ [UInt8.ofNat (128 + j % 128)]).map byteV) := by simpa using hown'
      have hbel1 : Below w.heap.size w w1 := (hbel.alloc (by have := hbel.size; omega) _).grown hgrow (by have := hbel.size; simp; omega) (fun q hq => (hown.lt q hq).1)
      have HV1 := Lib.hid (vint_snoc N d j HV.out hlt)
      clear hown' hgrow hown
      go_wp2
      go_roundw
      case rel => exact ⟨j / 128, _, by go_num, by omega, by simp; omega, hown2, hbel1, HV1⟩
      case measure => simp [intOf]; omega
end Go.Proofs.YtlbijhfjlgafeaaDoor
