/- The contracts of spec.EncodeFixed and impl.EncodeFixed: both answer the same bytes, most significant first, or the empty string. -/
import Derived.Test.YtlbijhfjlgafeaaDoorBytes
import Derived.Test.YtlbijhfjlgafeaaDoorDecFixed
import Derived.OwnWalk
namespace Go.Proofs.YtlbijhfjlgafeaaDoor
open Go.RowKit
def sh (N k : Nat) : Nat := N / 256 ^ k
theorem sh_zero (N : Nat) : sh N 0 = N := by simp [sh]
theorem sh_succ (N k : Nat) : sh N (k + 1) = sh N k / 256 := by simp [sh, Nat.pow_succ, Nat.div_div_eq_div_mul]
theorem sh_le (N k : Nat) : sh N k ≤ N := Nat.div_le_self _ _
def byteAt (N k : Nat) : UInt8 := UInt8.ofNat (sh N k % 256)
theorem byteAt_val (N k : Nat) : ((byteAt N k).toNat : Int) = (sh N k : Int) % 256 := by
  unfold byteAt; simp [UInt8.toNat_ofNat']
def bigB (N m : Nat) : List UInt8 := (List.range m).map fun q => byteAt N (m - 1 - q)
theorem bigB_len (N m : Nat) : (bigB N m).length = m := by simp [bigB]
theorem bigB_succ (N m : Nat) : bigB N (m + 1) = byteAt N m :: bigB N m := by
  unfold bigB
  rw [List.range_succ_eq_map, List.map_cons, List.map_map]
  congr 1
  apply List.map_congr_left
  intro q _
  show byteAt N (m + 1 - 1 - (q + 1)) = byteAt N (m - 1 - q)
  congr 1; omega
set_option maxHeartbeats 1000000 in
set_option maxRecDepth 1000000 in
theorem sencf_any (N m : Nat) (w : World) (hN : N ≤ 9223372036854775807) (h1 : 1 ≤ m) (h7 : m ≤ 7) :
    Calls Tryd.prog 14 #[.int .i64 N, .int .i64 m] w fun e w' => e = .returned (strV (if 0 < sh N m then [] else bigB N m)) ∧ Below w.heap.size w w' := by
  go_enter Tryd.func14, Tryd.ntmps14
  go_wp2_with (go_at_call 25; refine (in_yes _ _ _ _ (by omega) (by omega)).mono ?_; rintro e w' ⟨rfl, rfl⟩)
  go_loopw [0, 5, 6] (fun n s i wr => ∃ k : Nat, k ≤ m ∧ i = .int .i64 k ∧ n = .int .i64 (sh N k) ∧ s = strV (bigB N k) ∧ Below w.heap.size w wr) (fun _ _ i _ => m - (intOf i).toNat)
  case atStart => exact ⟨0, Nat.zero_le _, rfl, by rw [sh_zero], rfl, Below.refl _ _⟩
  case round =>
    obtain ⟨k, hk, rfl, rfl, rfl, hbel⟩ := hrel
    have hle := sh_le N k
    have hsz : (bs (bigB N k)).size ≤ 7 := by rw [bs_size, bigB_len]; omega
    by_cases hlt : k < m
    · have hc1 := conv_one wr (byteAt N k) _ (byteAt_val N k)
      have hs1 : (bs [byteAt N k]).size ≤ 1 := Nat.le_refl _
      go_wp2
      go_roundw
      case rel => exact ⟨k + 1, by omega, by go_num, by rw [sh_succ]; go_num, by rw [bs_append]; simp only [List.singleton_append, ← bigB_succ], hbel.alloc (by have := hbel.size; omega) _⟩
      case measure => simp [intOf]; omega
    · obtain rfl : k = m := by omega
      by_cases h0 : 0 < sh N k
      · go_wp2
        go_ret
        exact ⟨rfl, hbel⟩
      · go_wp2
        go_ret
        exact ⟨rfl, hbel⟩
/-- What stands in the new row after k rounds. -/
def rowAt (N m k : Nat) : List Value := (List.range m).map fun q => if q < k then byteV (byteAt N (m - 1 - q)) else .int .u8 0
theorem rowAt_zero (N m : Nat) : rowAt N m 0 = (madeCells #[Value.int .u8 0] m).toList := by
  rw [toList_madeCells_one]
  unfold rowAt
  apply List.ext_getElem <;> simp
theorem rowAt_full (N m : Nat) : rowAt N m m = (bigB N m).map byteV := by
  unfold rowAt bigB
  rw [List.map_map]
  apply List.map_congr_left
  intro q hq
  simp at hq
  simp [hq]
theorem rowAt_set (N m k : Nat) : (rowAt N m k).set k (byteV (byteAt N (m - 1 - k))) = rowAt N m (k + 1) := by
  unfold rowAt
  apply List.ext_getElem
  · simp
  · intro q h1 h2
    by_cases e : k = q
    · subst e; simp
    · have : (q < k + 1) = (q < k) := by apply propext; omega
      simp [e, this]
theorem rowAt_at (N m k : Nat) (h : k < m) : (rowAt N m k)[k]? = some (.int .u8 0) := by
  unfold rowAt; simp [h]
theorem sh_two (N j : Nat) : (N : Int) / 2 ^ (8 * j) = (sh N j : Int) := by
  have h : (2 : Nat) ^ (8 * j) = 256 ^ j := by rw [Nat.pow_mul]
  have h2 : (2 : Int) ^ (8 * j) = ((2 ^ (8 * j) : Nat) : Int) := by simp
  unfold sh
  rw [h2, h]
  exact (Int.natCast_ediv _ _).symm
set_option maxHeartbeats 1000000 in
set_option maxRecDepth 1000000 in
theorem iencf_any (N m : Nat) (w : World) (hN : N ≤ 9223372036854775807) (h1 : 1 ≤ m) (h7 : m ≤ 7) :
    Calls Tryd.prog 12 #[.int .i64 N, .int .i64 m] w fun e w' => e = .returned (strV (if 0 < sh N m then [] else bigB N m)) ∧ Below w.heap.size w w' := by
  obtain ⟨i0, hi, hz0, hz1, hz2⟩ := info_parts byteInfo
  by_cases h0 : 0 < sh N m
  · have hq : ((N : Int) / 2 ^ (8 * m) != 0) = true := by rw [sh_two]; simp; omega
    rw [if_pos h0]
    clear h0
    go_enter Tryd.func12, Tryd.ntmps12
    go_wp2
    go_ret
    exact ⟨rfl, Below.refl _ _⟩
  · have hq : ((N : Int) / 2 ^ (8 * m) != 0) = false := by rw [sh_two]; simp; omega
    rw [if_neg h0]
    clear h0
    go_enter Tryd.func12, Tryd.ntmps12
    go_wp2_with (at_make; refine wpList_make_full _ rfl _ _ 22 rfl w.heap.size 5 i0 (.int .u8 0) 1 Tryd.underlying22 hi hz0 hz1 .i64 .i64 m m m rfl rfl rfl rfl ?c1 ?c2 ?c3 ?_)
    case c1 => rw [hz2]; omega
    case c2 => unfold maxLen; omega
    case c3 => omega
    intro w1 hown hgrow
    have hrow : w1.ownsRow w.heap.size 5 1 (.slice (some ⟨w.heap.size, 0, none⟩) m m) m (rowAt N m 0) := by rw [rowAt_zero]; simpa using hown
    have hbel1 : Below w.heap.size w w1 := (Below.refl _ w).grown hgrow (Nat.le_refl _) (fun q hq => by cases hq)
    clear hown hgrow
    go_wp2
    go_loopw [6, 28] (fun _ i wr => ∃ k : Nat, k ≤ m ∧ i = .int .i64 k ∧ wr.ownsRow w.heap.size 5 1 (.slice (some ⟨w.heap.size, 0, none⟩) m m) m (rowAt N m k) ∧ Below w.heap.size w wr) (fun _ i _ => m - (intOf i).toNat)
    case atStart => exact ⟨0, Nat.zero_le _, rfl, hrow, hbel1⟩
    case round =>
      obtain ⟨k, hk, rfl, hr, hbel⟩ := hrel
      by_cases hlt : k < m
      · have hcell : wr.cell? ⟨w.heap.size, k, none⟩ = some (.int .u8 0) := (hr.cellAt k (by omega)).trans (rowAt_at N m k hlt)
        have hfr := hr.frozenAt k
        have hst := (hr.stored k (byteV (byteAt N (m - 1 - k)))).1
        rw [rowAt_set] at hst
        have hv : byteV (byteAt N (m - 1 - k)) = .int .u8 ((sh N (m - 1 - k) : Int) % 256) := by unfold byteV; rw [byteAt_val]
        rw [hv] at hst
        clear hv
        have HST := Lib.hid hst
        clear hst
        have hpow : ((N : Int) / 2 ^ (8 * (m - 1 - k))) = sh N (m - 1 - k) := sh_two _ _
        go_wp2
        go_roundw
        case rel => exact ⟨k + 1, by omega, by go_num, HST.out, hbel.setCell (Nat.le_refl _) _⟩
        case measure => simp [intOf]; omega
      · obtain rfl : k = m := by omega
        have hr2 : wr.ownsRow w.heap.size 5 1 (.slice (some ⟨w.heap.size, 0, none⟩) k k) (bigB N k).length ((bigB N k).map byteV) := by rw [← rowAt_full, bigB_len]; exact hr
        have hconv := conv_own hr2
        clear hr2
        go_wp2
        go_ret
        exact ⟨rfl, hbel⟩
end Go.Proofs.YtlbijhfjlgafeaaDoor
