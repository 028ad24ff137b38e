/- The contracts of the program's own functions on groups: the orders, the product. -/
import Derived.Test.YtfkleihnafeoeaaGreatDoorGrpSpec6
import Derived.Laws.CopyOwn
import Derived.Laws.ResultCell
namespace Go.Proofs.YtfkleihnafeoeaaGreatDoor
open Go.RowKit
set_option maxRecDepth 1000000
/-- Three ints as the program keeps them. -/
abbrev tV (x y z : Int) : Value := .agg #[.int .i64 x, .int .i64 y, .int .i64 z]
theorem trip_cell {w : World} {B : Nat} {x y z : Value} {T : TypeId} (h : w.heap[B]? = some (.cells #[x, y, z] T (0, 0))) :
    w.cell? ⟨B, 0, none⟩ = some x ∧ w.cell? ⟨B, 1, none⟩ = some y ∧ w.cell? ⟨B, 2, none⟩ = some z ∧ w.frozen? ⟨B, 0, none⟩ = false ∧ w.frozen? ⟨B, 1, none⟩ = false ∧ w.frozen? ⟨B, 2, none⟩ = false :=
  ⟨by simp [World.cell?, h], by simp [World.cell?, h], by simp [World.cell?, h], by simp [World.frozen?, h], by simp [World.frozen?, h], by simp [World.frozen?, h]⟩
theorem below_set3 {B b : Nat} {w0 w : World} {x y z : Value} (h : Below B w0 w) (hb : B ≤ b) : Below B w0 (((w.setCell ⟨b, 0, none⟩ x).setCell ⟨b, 1, none⟩ y).setCell ⟨b, 2, none⟩ z) :=
  Below.setCell (Below.setCell (Below.setCell h hb _) hb _) hb _
/-- What ordersOf answers. -/
def OrdersPost (l : List Int) (w : World) (e : Ending) (w' : World) : Prop :=
  ∃ x y z, e = .returned (.tuple #[tV x y z, .bool (grpB l)]) ∧ (grpB l = true → x = l.getD 0 1 ∧ y = l.getD 1 1 ∧ z = l.getD 2 1) ∧ Below w.heap.size w w'
/-- The orders, with ones behind them. -/
theorem splice_pad (l : List Int) (h : l.length ≤ 3) : splice [Value.int .i64 1, Value.int .i64 1, Value.int .i64 1] 0 (l.map (Value.int .i64)) = [.int .i64 (l.getD 0 1), .int .i64 (l.getD 1 1), .int .i64 (l.getD 2 1)] := by
  match l, h with
  | [], _ => rfl
  | [_], _ => rfl
  | [_, _], _ => rfl
  | [_, _, _], _ => rfl
  | _ :: _ :: _ :: _ :: _, h => simp at h
theorem iOrders (w : World) (a : Option Addr) (l : List Int) (n cap : Nat) (hn : n = l.length) (hm : n ≤ 9223372036854775807) (hi : Ints w a l) :
    Calls Tryz.prog 68 #[.agg #[.slice a n cap]] w (OrdersPost l w) := by
  have HI := Lib.hid (ints_alloc (ints_alloc hi (.cells #[.slice a n cap] 26)) (.cells #[.int .i64 0, .int .i64 0, .int .i64 0] 44))
  have HN := Lib.hid hn
  have C1 := keepC (Joins.below_alloc1 _ (.cells #[.int .i64 0, .int .i64 0, .int .i64 0] 44)) (by simp) (newC w (.slice a n cap) 26 (n := w.heap.size) rfl)
  have HB := Lib.hid (Joins.below_alloc2 w (.cells #[.slice a n cap] 26) (.cells #[.int .i64 0, .int .i64 0, .int .i64 0] 44))
  clear hi hn
  by_cases hlong : 3 < n
  · have HF := Lib.hid (grpB_long (l := l) (by rw [← HN.out]; exact hlong))
    go_enter Tryz.func68, Tryz.ntmps68
    go_wp2
    refine bodyPost_ret (v := .tuple #[tV 0 0 0, .bool false]) (by rw [results_cell_tmp Tryz.results68]; simp [go_sem]) rfl ⟨0, 0, 0, by rw [HF.out], by rw [HF.out]; simp, HB.out⟩
  · have h3 : n ≤ 3 := by omega
    go_enter Tryz.func68, Tryz.ntmps68
    go_wp2
    go_loop [4, 16] (fun p i => ∃ k : Nat, k ≤ n ∧ i = .int .i64 k ∧ p = .int .i64 (PK l k) ∧ Hid (∀ j, j < k → 2 ≤ l.getD j 0 ∧ l.getD j 0 ≤ 24)) (fun _ i => n - (intOf i).toNat)
    case atStart => exact ⟨0, by omega, rfl, by rw [PK_zero], Lib.hid (fun j h => by omega)⟩
    case round =>
      obtain ⟨k, hk, rfl, rfl, HR⟩ := hrel
      have hkl : k ≤ l.length := by rw [← HN.out]; exact hk
      have hsm := PK_small l k hkl (by omega) HR.out
      by_cases hlt : k < n
      · have hkl2 : k < l.length := by rw [← HN.out]; exact hlt
        rcases HI.out with h0 | ⟨b, off, h1, hbl, hc⟩
        · rw [h0] at hkl2; simp at hkl2
        · subst h1
          have r1 := hc k hkl2
          clear hc hkl
          have HS := Lib.hid (PK_succ l k hkl2)
          by_cases hin : 2 ≤ l.getD k 0 ∧ l.getD k 0 ≤ 24
          · obtain ⟨hi1, hi2⟩ := hin
            have HX := Lib.hid (And.intro hi1 hi2)
            have hP := mul_bnd hsm.1 hsm.2 (show 1 ≤ l.getD k 0 by omega) hi2
            have HR2 : Hid (∀ j, j < k + 1 → 2 ≤ l.getD j 0 ∧ l.getD j 0 ≤ 24) := Lib.hid (fun j hj => by
              rcases Nat.lt_or_ge j k with h | h
              · exact HR.out j h
              · rw [show j = k by omega]; exact HX.out)
            obtain ⟨hP1, hP2⟩ := hP
            clear hkl2 hsm HX HR
            generalize l.getD k 0 = c at *
            generalize PK l k = N at *
            go_wp2
            go_round
            case rel => exact ⟨k + 1, by omega, by go_num, by rw [HS.out], HR2⟩
            case measure => simp [intOf]; omega
          · have HF := Lib.hid (grpB_out k hkl2 hin)
            have hor : l.getD k 0 < 2 ∨ 24 < l.getD k 0 := by omega
            clear hkl2 hsm HR HS hin
            generalize l.getD k 0 = c at *
            generalize PK l k = N at *
            rcases hor with h | h
            all_goals
              go_wp2
              refine bodyPost_ret (v := .tuple #[tV 0 0 0, .bool false]) (by rw [results_cell_tmp Tryz.results68]; simp [go_sem]) rfl ⟨0, 0, 0, by rw [HF.out], by rw [HF.out]; simp, HB.out⟩
      · obtain rfl : k = n := by omega
        have HF := Lib.hid (grpB_of (l := l) (by rw [← HN.out]; omega) (by rw [← HN.out]; exact HR.out))
        rw [← PK_full, ← HN.out] at HF
        clear hkl hsm HR
        generalize PK l k = N at *
        go_wp2
        have HSP := Lib.hid (splice_pad l (by rw [← HN.out]; omega))
        obtain ⟨W, hW⟩ : ∃ W, W = ((w.alloc (.cells #[.slice a k cap] 26)).alloc (.cells #[.int .i64 0, .int .i64 0, .int .i64 0] 44)).alloc (.cells #[.int .i64 1, .int .i64 1, .int .i64 1] 44) := ⟨_, rfl⟩
        have HBW : Hid (Below w.heap.size w W) := Lib.hid (by rw [hW]; exact Below.alloc HB.out (by simp; omega) _)
        have HD := Lib.hid (Below.drew (Below.refl (w.heap.size + 1 + 1) W))
        have Q1 : Hid (W.drew.heap[w.heap.size + 1 + 1]? = some (.cells [Value.int .i64 1, Value.int .i64 1, Value.int .i64 1].toArray 44 (0, 0))) := Lib.hid (by rw [hW]; have h := heap_alloc_new ((w.alloc (.cells #[.slice a k cap] 26)).alloc (.cells #[.int .i64 0, .int .i64 0, .int .i64 0] 44)) (.cells #[.int .i64 1, .int .i64 1, .int .i64 1] 44); rw [show ((w.alloc (.cells #[.slice a k cap] 26)).alloc (.cells #[.int .i64 0, .int .i64 0, .int .i64 0] 44)).heap.size = w.heap.size + 1 + 1 by simp] at h; exact h)
        have Q2 : Hid ((l.map (Value.int .i64)).length = Nat.min k 3) := Lib.hid (by rw [List.length_map, ← HN.out]; exact (Nat.min_eq_left (by omega)).symm)
        have Q3 : Hid (0 < (l.map (Value.int .i64)).length → (some ⟨w.heap.size + 1 + 1, 0, none⟩ : Option Addr) = some ⟨w.heap.size + 1 + 1, 0, none⟩ ∧ ∃ ad, a = some ad ∧ ∀ j v, (l.map (Value.int .i64))[j]? = some v → W.drew.cell? (ad.add j) = some v) := Lib.hid (fun hp => by
          refine ⟨rfl, ?_⟩
          rcases HI.out with h0 | ⟨b, off, h1, hbl, hc⟩
          · rw [h0] at hp; simp at hp
          · refine ⟨_, h1, fun j v hv => ?_⟩
            have hj : j < l.length := by
              rcases Nat.lt_or_ge j l.length with h | h
              · exact h
              · rw [List.getElem?_eq_none (by simpa using h)] at hv; cases hv
            rw [List.getElem?_map, List.getElem?_eq_getElem hj] at hv
            simp only [Option.map_some, Option.some.injEq] at hv
            have := hc j hj
            rw [hW, show (⟨b, off, none⟩ : Addr).add j = ⟨b, off + j, none⟩ by simp [Addr.add]]
            show World.cell? _ _ = _
            rw [← hv]
            have h2 := keepC (Joins.below_alloc1 _ (.cells #[.int .i64 1, .int .i64 1, .int .i64 1] 44)) (by simpa using hbl) this
            simpa [List.getD, List.getElem?_eq_getElem hj] using h2)
        have Q4 : Hid (0 + (l.map (Value.int .i64)).length ≤ [Value.int .i64 1, Value.int .i64 1, Value.int .i64 1].length) := Lib.hid (by rw [List.length_map, ← HN.out]; simpa using h3)
        have Q5 : Hid (∀ v ∈ l.map (Value.int .i64), v.oneCell' = true) := Lib.hid (fun v hv => by obtain ⟨x, _, rfl⟩ := List.mem_map.1 hv; rfl)
        have C2 : W.cell? ⟨w.heap.size, 0, none⟩ = some (.slice a k cap) := by rw [hW]; exact keepC (Joins.below_alloc1 _ _) (by simp; omega) C1
        have H0 : W.heap[w.heap.size + 1]? = some (.cells #[.int .i64 0, .int .i64 0, .int .i64 0] 44 (0, 0)) := by
          rw [hW, heap_alloc_old _ _ (by simp)]; simpa using heap_alloc_new (w.alloc (.cells #[.slice a k cap] 26)) (.cells #[.int .i64 0, .int .i64 0, .int .i64 0] 44)
        have H0' := Lib.hid H0
        clear H0 C1
        rw [← hW]
        clear hW
        go_region_law (refine step_copy_splice rfl (.tmp 32) (.tmp 34) 24 24 rfl 3 Tryz.underlying24 (by kernel_rfl) (some ⟨w.heap.size + 1 + 1, 0, none⟩) a 3 3 k cap (by simp [Act.eval]) (by simp [Act.eval]) (w.heap.size + 1 + 1) 0 [.int .i64 1, .int .i64 1, .int .i64 1] 44 Q1.out (l.map (Value.int .i64)) Q2.out Q3.out Q4.out Q5.out (w.heap.size + 1 + 1) W HD.out (Nat.le_refl _) ?_; intro w4 hg4 hb4)
        all_goals
          have hh := hg4.out
          obtain ⟨o0, E0⟩ : ∃ o, Hid (l.getD 0 1 = o) := ⟨_, Lib.hid rfl⟩
          obtain ⟨o1, E1⟩ : ∃ o, Hid (l.getD 1 1 = o) := ⟨_, Lib.hid rfl⟩
          obtain ⟨o2, E2⟩ : ∃ o, Hid (l.getD 2 1 = o) := ⟨_, Lib.hid rfl⟩
          rw [HSP.out, E0.out, E1.out, E2.out] at hh
          have hr := (hb4.block (w.heap.size + 1) (by omega)).trans H0'.out
          obtain ⟨a0, a1, a2, _, _, _⟩ := trip_cell hh
          obtain ⟨b0, b1, b2, g0, g1, g2⟩ := trip_cell hr
          have HR := Lib.hid hr
          have HH := Lib.hid hh
          clear hg4 hr hh
          go_wp2
          refine bodyPost_ret (v := .tuple #[tV o0 o1 o2, .bool (decide (N ≤ 24))]) (by rw [results_cell_tmp Tryz.results68]; simp [go_sem, b0, b1, b2]) rfl ⟨o0, o1, o2, by rw [HF.out], fun _ => ⟨E0.out.symm, E1.out.symm, E2.out.symm⟩, ?_⟩
          exact below_set3 (HBW.out.trans (hb4.mono (by omega))) (by omega)
end Go.Proofs.YtfkleihnafeoeaaGreatDoor
