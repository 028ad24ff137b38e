/- The program's own sums of sets: both arguments read, SumOfSets, DifferenceOfSets, MultipleSum. -/
import Derived.Test.YtaacofbmbpkeoaaDoorSumI
import Derived.Test.YtaacofbmbpkeoaaDoorSetDil
namespace Go.Proofs.YtaacofbmbpkeoaaDoor
open Go.RowKit
set_option maxRecDepth 1000000
/-- What setsIn answers. -/
def SetsInPost (l : List Int) (s t : Int) (w : World) (e : Ending) (w' : World) : Prop :=
  ∃ p q r u v, e = .returned (.tuple #[tV p q r, .int .u64 u, .int .u64 v, .bool (two l s t)]) ∧ (two l s t = true → p = l.getD 0 1 ∧ q = l.getD 1 1 ∧ r = l.getD 2 1 ∧ u = s ∧ v = t) ∧ Below w.heap.size w w'
set_option maxHeartbeats 4000000 in
theorem iSetsIn (w : World) (a : Option Addr) (l : List Int) (n cap : Nat) (s t : Int) (hn : n = l.length) (hm : n ≤ 9223372036854775807) (hi : Ints w a l) :
    Calls Tryd.prog 52 #[.agg #[.slice a n cap], .int .i64 s, .int .i64 t] w (SetsInPost l s t w) := by
  unfold SetsInPost
  have HI := Lib.hid (ints_alloc (ints_alloc hi (.cells #[.slice a n cap] 27)) (.cells #[.int .i64 0, .int .i64 0, .int .i64 0] 45))
  have HN := Lib.hid hn
  have C1 := keepC (Joins.below_alloc1 _ (.cells #[.int .i64 0, .int .i64 0, .int .i64 0] 45)) (by simp <;> omega) (newC w (.slice a n cap) 27 (n := w.heap.size) rfl)
  have HB := Lib.hid (Joins.below_alloc2 w (.cells #[.slice a n cap] 27) (.cells #[.int .i64 0, .int .i64 0, .int .i64 0] 45))
  have R1 : Hid (((w.alloc (.cells #[.slice a n cap] 27)).alloc (.cells #[.int .i64 0, .int .i64 0, .int .i64 0] 45)).heap[w.heap.size + 1]? = some (.cells #[.int .i64 0, .int .i64 0, .int .i64 0] 45 (0, 0))) := Lib.hid (by simpa using heap_alloc_new (w.alloc (.cells #[.slice a n cap] 27)) (.cells #[.int .i64 0, .int .i64 0, .int .i64 0] 45))
  have T0 := Lib.hid (Below.refl ((w.alloc (.cells #[.slice a n cap] 27)).alloc (.cells #[.int .i64 0, .int .i64 0, .int .i64 0] 45)).heap.size ((w.alloc (.cells #[.slice a n cap] 27)).alloc (.cells #[.int .i64 0, .int .i64 0, .int .i64 0] 45)))
  clear hi hn
  obtain ⟨p, EP⟩ : ∃ p, Hid (l.getD 0 1 = p) := ⟨_, Lib.hid rfl⟩
  obtain ⟨q, EQ⟩ : ∃ q, Hid (l.getD 1 1 = q) := ⟨_, Lib.hid rfl⟩
  obtain ⟨r, ER⟩ : ∃ r, Hid (l.getD 2 1 = r) := ⟨_, Lib.hid rfl⟩
  cases hs : isS l s with
  | false =>
    have HS := Lib.hid hs
    rw [show two l s t = false by unfold two; rw [hs]; rfl]
    cases ht : isS l t with
    | false =>
      have HS2 := Lib.hid ht
      clear hs ht
      go_enter Tryd.func52, Tryd.ntmps52
      go_wp2_with (first
        | (go_at_call 51; have hx_ := T1; clear hx_; refine (iSetIn_no _ _ _ _ _ _ HN.out hm (HI.out.below rfl T1.out) HS2.out).mono ?_; rintro e w2 ⟨rfl, hb2⟩; have S2 := Lib.hid (T1.out.trans (hb2.mono T1.out.size)); have T2 := Lib.hid (S2.out.alloc S2.out.size (.cells #[.int .i64 0, .int .i64 0, .int .i64 0] 45)); have cs2 := keepC S2.out (by simp <;> omega) C1; have c2 := keepC T2.out (by simp <;> omega) C1; have R8 := Lib.hid (heap_alloc_new w2 (.cells #[.int .i64 0, .int .i64 0, .int .i64 0] 45)); obtain ⟨x20, x21, x22, x2f0, x2f1, x2f2⟩ := trip_cell (keepH T2.out (by simp <;> omega) R1.out); obtain ⟨y0, y1, y2, yf0, yf1, yf2⟩ := trip_cell (keepH (hb2.alloc hb2.size (.cells #[.int .i64 0, .int .i64 0, .int .i64 0] 45)) (by simp <;> omega) R7.out))
        | (go_at_call 51; refine (iSetIn_no _ _ _ _ _ _ HN.out hm (HI.out.below rfl T0.out) HS.out).mono ?_; rintro e w1 ⟨rfl, hb1⟩; have S1 := Lib.hid (T0.out.trans (hb1.mono T0.out.size)); have T1 := Lib.hid (S1.out.alloc S1.out.size (.cells #[.int .i64 0, .int .i64 0, .int .i64 0] 45)); have cs1 := keepC S1.out (by simp <;> omega) C1; have c1 := keepC T1.out (by simp <;> omega) C1; have R7 := Lib.hid (heap_alloc_new w1 (.cells #[.int .i64 0, .int .i64 0, .int .i64 0] 45)); obtain ⟨x10, x11, x12, x1f0, x1f1, x1f2⟩ := trip_cell (keepH T1.out (by simp <;> omega) R1.out)))
      refine bodyPost_ret (v := .tuple #[tV 0 0 0, .int .u64 0, .int .u64 0, .bool false]) (by simp [results, Tryd.results52, go_sem, x20, x21, x22]) rfl ⟨_, _, _, _, _, rfl, (fun h => by cases h), below_set3 (HB.out.trans (T2.out.mono (by simp <;> omega))) (by omega)⟩
    | true =>
      have HS2 := Lib.hid ht
      clear hs ht
      go_enter Tryd.func52, Tryd.ntmps52
      go_wp2_with (first
        | (go_at_call 51; have hx_ := T1; clear hx_; refine (iSetIn_yes _ _ _ _ _ _ HN.out hm (HI.out.below rfl T1.out) HS2.out).mono ?_; rw [EP.out, EQ.out, ER.out]; rintro e w2 ⟨rfl, hb2⟩; have S2 := Lib.hid (T1.out.trans (hb2.mono T1.out.size)); have T2 := Lib.hid (S2.out.alloc S2.out.size (.cells #[.int .i64 p, .int .i64 q, .int .i64 r] 45)); have cs2 := keepC S2.out (by simp <;> omega) C1; have c2 := keepC T2.out (by simp <;> omega) C1; have R8 := Lib.hid (heap_alloc_new w2 (.cells #[.int .i64 p, .int .i64 q, .int .i64 r] 45)); obtain ⟨x20, x21, x22, x2f0, x2f1, x2f2⟩ := trip_cell (keepH T2.out (by simp <;> omega) R1.out); obtain ⟨y0, y1, y2, yf0, yf1, yf2⟩ := trip_cell (keepH (hb2.alloc hb2.size (.cells #[.int .i64 p, .int .i64 q, .int .i64 r] 45)) (by simp <;> omega) R7.out))
        | (go_at_call 51; refine (iSetIn_no _ _ _ _ _ _ HN.out hm (HI.out.below rfl T0.out) HS.out).mono ?_; rintro e w1 ⟨rfl, hb1⟩; have S1 := Lib.hid (T0.out.trans (hb1.mono T0.out.size)); have T1 := Lib.hid (S1.out.alloc S1.out.size (.cells #[.int .i64 0, .int .i64 0, .int .i64 0] 45)); have cs1 := keepC S1.out (by simp <;> omega) C1; have c1 := keepC T1.out (by simp <;> omega) C1; have R7 := Lib.hid (heap_alloc_new w1 (.cells #[.int .i64 0, .int .i64 0, .int .i64 0] 45)); obtain ⟨x10, x11, x12, x1f0, x1f1, x1f2⟩ := trip_cell (keepH T1.out (by simp <;> omega) R1.out)))
      refine bodyPost_ret (v := .tuple #[tV 0 0 0, .int .u64 0, .int .u64 0, .bool false]) (by simp [results, Tryd.results52, go_sem, x20, x21, x22]) rfl ⟨_, _, _, _, _, rfl, (fun h => by cases h), below_set3 (HB.out.trans (T2.out.mono (by simp <;> omega))) (by omega)⟩
  | true =>
    have HS := Lib.hid hs
    cases ht : isS l t with
    | false =>
      have HS2 := Lib.hid ht
      rw [show two l s t = false by unfold two; rw [hs, ht]; rfl]
      clear hs ht
      go_enter Tryd.func52, Tryd.ntmps52
      go_wp2_with (first
        | (go_at_call 51; have hx_ := T1; clear hx_; refine (iSetIn_no _ _ _ _ _ _ HN.out hm (HI.out.below rfl T1.out) HS2.out).mono ?_; rintro e w2 ⟨rfl, hb2⟩; have S2 := Lib.hid (T1.out.trans (hb2.mono T1.out.size)); have T2 := Lib.hid (S2.out.alloc S2.out.size (.cells #[.int .i64 0, .int .i64 0, .int .i64 0] 45)); have cs2 := keepC S2.out (by simp <;> omega) C1; have c2 := keepC T2.out (by simp <;> omega) C1; have R8 := Lib.hid (heap_alloc_new w2 (.cells #[.int .i64 0, .int .i64 0, .int .i64 0] 45)); obtain ⟨x20, x21, x22, x2f0, x2f1, x2f2⟩ := trip_cell (keepH T2.out (by simp <;> omega) R1.out); obtain ⟨y0, y1, y2, yf0, yf1, yf2⟩ := trip_cell (keepH (hb2.alloc hb2.size (.cells #[.int .i64 0, .int .i64 0, .int .i64 0] 45)) (by simp <;> omega) R7.out))
        | (go_at_call 51; refine (iSetIn_yes _ _ _ _ _ _ HN.out hm (HI.out.below rfl T0.out) HS.out).mono ?_; rw [EP.out, EQ.out, ER.out]; rintro e w1 ⟨rfl, hb1⟩; have S1 := Lib.hid (T0.out.trans (hb1.mono T0.out.size)); have T1 := Lib.hid (S1.out.alloc S1.out.size (.cells #[.int .i64 p, .int .i64 q, .int .i64 r] 45)); have cs1 := keepC S1.out (by simp <;> omega) C1; have c1 := keepC T1.out (by simp <;> omega) C1; have R7 := Lib.hid (heap_alloc_new w1 (.cells #[.int .i64 p, .int .i64 q, .int .i64 r] 45)); obtain ⟨x10, x11, x12, x1f0, x1f1, x1f2⟩ := trip_cell (keepH T1.out (by simp <;> omega) R1.out)))
      refine bodyPost_ret (v := .tuple #[tV 0 0 0, .int .u64 0, .int .u64 0, .bool false]) (by simp [results, Tryd.results52, go_sem, x20, x21, x22]) rfl ⟨_, _, _, _, _, rfl, (fun h => by cases h), below_set3 (HB.out.trans (T2.out.mono (by simp <;> omega))) (by omega)⟩
    | true =>
      have HS2 := Lib.hid ht
      rw [show two l s t = true by unfold two; rw [hs, ht]; rfl]
      clear hs ht
      go_enter Tryd.func52, Tryd.ntmps52
      go_wp2_with (first
        | (go_at_call 51; have hx_ := T1; clear hx_; refine (iSetIn_yes _ _ _ _ _ _ HN.out hm (HI.out.below rfl T1.out) HS2.out).mono ?_; rw [EP.out, EQ.out, ER.out]; rintro e w2 ⟨rfl, hb2⟩; have S2 := Lib.hid (T1.out.trans (hb2.mono T1.out.size)); have T2 := Lib.hid (S2.out.alloc S2.out.size (.cells #[.int .i64 p, .int .i64 q, .int .i64 r] 45)); have cs2 := keepC S2.out (by simp <;> omega) C1; have c2 := keepC T2.out (by simp <;> omega) C1; have R8 := Lib.hid (heap_alloc_new w2 (.cells #[.int .i64 p, .int .i64 q, .int .i64 r] 45)); obtain ⟨x20, x21, x22, x2f0, x2f1, x2f2⟩ := trip_cell (keepH T2.out (by simp <;> omega) R1.out); obtain ⟨y0, y1, y2, yf0, yf1, yf2⟩ := trip_cell (keepH (hb2.alloc hb2.size (.cells #[.int .i64 p, .int .i64 q, .int .i64 r] 45)) (by simp <;> omega) R7.out))
        | (go_at_call 51; refine (iSetIn_yes _ _ _ _ _ _ HN.out hm (HI.out.below rfl T0.out) HS.out).mono ?_; rw [EP.out, EQ.out, ER.out]; rintro e w1 ⟨rfl, hb1⟩; have S1 := Lib.hid (T0.out.trans (hb1.mono T0.out.size)); have T1 := Lib.hid (S1.out.alloc S1.out.size (.cells #[.int .i64 p, .int .i64 q, .int .i64 r] 45)); have cs1 := keepC S1.out (by simp <;> omega) C1; have c1 := keepC T1.out (by simp <;> omega) C1; have R7 := Lib.hid (heap_alloc_new w1 (.cells #[.int .i64 p, .int .i64 q, .int .i64 r] 45)); obtain ⟨x10, x11, x12, x1f0, x1f1, x1f2⟩ := trip_cell (keepH T1.out (by simp <;> omega) R1.out)))
      refine bodyPost_ret (v := .tuple #[tV p q r, .int .u64 s, .int .u64 t, .bool true]) (by simp [results, Tryd.results52, go_sem, x20, x21, x22]) rfl ⟨_, _, _, _, _, rfl, fun _ => ⟨EP.out.symm, EQ.out.symm, ER.out.symm, rfl, rfl⟩, below_set3 (HB.out.trans (T2.out.mono (by simp <;> omega))) (by omega)⟩
end Go.Proofs.YtaacofbmbpkeoaaDoor
