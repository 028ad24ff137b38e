/- The program's own reading of sets that are not empty: filledSetIn and filledSetsIn answer the orders and the sets, or an error. -/
import Derived.Test.YtaacofbmbpkeoaaDoorErr
import Derived.Test.YtaacofbmbpkeoaaDoorSumJ
import Derived.Test.YtaacofbmbpkeoaaDoorKNB
namespace Go.Proofs.YtaacofbmbpkeoaaDoor
open Go.RowKit
set_option maxRecDepth 1000000
theorem below_set3k {B b : Nat} {w0 w : World} {x y z : Value} (h : Below B w0 w) (hb : B ≤ b) : Below B w0 (((w.setCell ⟨b, 0, none⟩ x).setCell ⟨b, 1, none⟩ y).setCell ⟨b, 2, none⟩ z) := below_set3 h hb
/-- Whether s is a set that is not empty. -/
def fullB (l : List Int) (s : Int) : Bool := isS l s && !(s == 0)
theorem neB_full (l : List Int) (s t : Int) : neB l s t = (fullB l s && fullB l t) := by
  unfold neB two fullB
  cases isS l s <;> cases isS l t <;> cases (s == 0) <;> cases (t == 0) <;> rfl
set_option maxHeartbeats 2000000 in
theorem iFS_no (w : World) (a : Option Addr) (l : List Int) (n cap : Nat) (s : Int) (nm : ByteArray) (hn : n = l.length) (hm : n ≤ 9223372036854775807) (hi : Ints w a l) (hs : fullB l s = false) :
    Calls Tryd.prog 53 #[.agg #[.slice a n cap], .int .i64 s, .string nm] w fun e w' => ∃ x y, e = .returned (.tuple #[tV 0 0 0, .int .u64 0, .iface 67 (.agg #[.string (x), .string (y)])]) ∧ Below w.heap.size w w' := by
  have HI := Lib.hid (ints_alloc (ints_alloc hi (.cells #[.slice a n cap] 27)) (.cells #[.int .i64 0, .int .i64 0, .int .i64 0] 45))
  have HN := Lib.hid hn
  have C1 := keepC (Joins.below_alloc1 _ (.cells #[.int .i64 0, .int .i64 0, .int .i64 0] 45)) (by simp <;> omega) (newC w (.slice a n cap) 27 (n := w.heap.size) rfl)
  have HB := Lib.hid (Joins.below_alloc2 w (.cells #[.slice a n cap] 27) (.cells #[.int .i64 0, .int .i64 0, .int .i64 0] 45))
  have R1 : Hid (((w.alloc (.cells #[.slice a n cap] 27)).alloc (.cells #[.int .i64 0, .int .i64 0, .int .i64 0] 45)).heap[w.heap.size + 1]? = some (.cells #[.int .i64 0, .int .i64 0, .int .i64 0] 45 (0, 0))) := Lib.hid (by simpa using heap_alloc_new (w.alloc (.cells #[.slice a n cap] 27)) (.cells #[.int .i64 0, .int .i64 0, .int .i64 0] 45))
  have T0 := Lib.hid (Below.refl ((w.alloc (.cells #[.slice a n cap] 27)).alloc (.cells #[.int .i64 0, .int .i64 0, .int .i64 0] 45)).heap.size ((w.alloc (.cells #[.slice a n cap] 27)).alloc (.cells #[.int .i64 0, .int .i64 0, .int .i64 0] 45)))
  clear hi hn
  obtain ⟨p, EP⟩ : ∃ p, Hid (l.getD 0 1 = p) := ⟨_, Lib.hid rfl⟩
  obtain ⟨q, EQ⟩ : ∃ q, Hid (l.getD 1 1 = q) := ⟨_, Lib.hid rfl⟩
  obtain ⟨r, ER⟩ : ∃ r, Hid (l.getD 2 1 = r) := ⟨_, Lib.hid rfl⟩
  cases h1 : isS l s with
  | false =>
    have HS := Lib.hid h1
    clear hs h1
    go_enter Tryd.func53, Tryd.ntmps53
    go_wp2_with (first | (go_at_call 51; refine (iSetIn_no _ _ _ _ _ _ HN.out hm (HI.out.below rfl T0.out) HS.out).mono ?_; rintro e w1 ⟨rfl, hb1⟩; have S1 := Lib.hid (T0.out.trans (hb1.mono T0.out.size)); have T1 := Lib.hid (S1.out.alloc S1.out.size (.cells #[.int .i64 0, .int .i64 0, .int .i64 0] 45)); have cs1 := keepC S1.out (by simp <;> omega) C1; have c1 := keepC T1.out (by simp <;> omega) C1; have R7 := Lib.hid (heap_alloc_new w1 (.cells #[.int .i64 0, .int .i64 0, .int .i64 0] 45)); obtain ⟨x10, x11, x12, x1f0, x1f1, x1f2⟩ := trip_cell (keepH T1.out (by simp <;> omega) R1.out); obtain ⟨z0, z1, z2, zf0, zf1, zf2⟩ := trip_cell R7.out))
    refine bodyPost_ret (v := .tuple #[tV 0 0 0, .int .u64 0, .iface 67 (.agg #[.string (nm), .string (ByteArray.mk #[110, 111, 110, 101, 32, 111, 102, 32, 116, 104, 101, 32, 103, 114, 111, 117, 112])])]) (by simp [results, Tryd.results53, go_sem, x10, x11, x12]) rfl ⟨_, _, rfl, below_set3 (HB.out.trans (T1.out.mono (by simp <;> omega))) (by omega)⟩
  | true =>
    have HS := Lib.hid h1
    have h0 : s = 0 := by
      unfold fullB at hs
      rw [h1] at hs
      simpa using hs
    subst h0
    clear hs h1
    go_enter Tryd.func53, Tryd.ntmps53
    go_wp2_with (first | (go_at_call 51; refine (iSetIn_yes _ _ _ _ _ _ HN.out hm (HI.out.below rfl T0.out) HS.out).mono ?_; rw [EP.out, EQ.out, ER.out]; rintro e w1 ⟨rfl, hb1⟩; have S1 := Lib.hid (T0.out.trans (hb1.mono T0.out.size)); have T1 := Lib.hid (S1.out.alloc S1.out.size (.cells #[.int .i64 p, .int .i64 q, .int .i64 r] 45)); have cs1 := keepC S1.out (by simp <;> omega) C1; have c1 := keepC T1.out (by simp <;> omega) C1; have R7 := Lib.hid (heap_alloc_new w1 (.cells #[.int .i64 p, .int .i64 q, .int .i64 r] 45)); obtain ⟨x10, x11, x12, x1f0, x1f1, x1f2⟩ := trip_cell (keepH T1.out (by simp <;> omega) R1.out); obtain ⟨z0, z1, z2, zf0, zf1, zf2⟩ := trip_cell R7.out))
    refine bodyPost_ret (v := .tuple #[tV 0 0 0, .int .u64 0, .iface 67 (.agg #[.string (nm), .string (ByteArray.mk #[101, 109, 112, 116, 121])])]) (by simp [results, Tryd.results53, go_sem, x10, x11, x12]) rfl ⟨_, _, rfl, below_set3 (HB.out.trans (T1.out.mono (by simp <;> omega))) (by omega)⟩
set_option maxHeartbeats 2000000 in
theorem iFS_yes (w : World) (a : Option Addr) (l : List Int) (n cap : Nat) (s : Int) (nm : ByteArray) (hn : n = l.length) (hm : n ≤ 9223372036854775807) (hi : Ints w a l) (hs : fullB l s = true) :
    Calls Tryd.prog 53 #[.agg #[.slice a n cap], .int .i64 s, .string nm] w fun e w' => e = .returned (.tuple #[tV (l.getD 0 1) (l.getD 1 1) (l.getD 2 1), .int .u64 s, .nilIface]) ∧ Below w.heap.size w w' := by
  have HI := Lib.hid (ints_alloc (ints_alloc hi (.cells #[.slice a n cap] 27)) (.cells #[.int .i64 0, .int .i64 0, .int .i64 0] 45))
  have HN := Lib.hid hn
  have C1 := keepC (Joins.below_alloc1 _ (.cells #[.int .i64 0, .int .i64 0, .int .i64 0] 45)) (by simp <;> omega) (newC w (.slice a n cap) 27 (n := w.heap.size) rfl)
  have HB := Lib.hid (Joins.below_alloc2 w (.cells #[.slice a n cap] 27) (.cells #[.int .i64 0, .int .i64 0, .int .i64 0] 45))
  have R1 : Hid (((w.alloc (.cells #[.slice a n cap] 27)).alloc (.cells #[.int .i64 0, .int .i64 0, .int .i64 0] 45)).heap[w.heap.size + 1]? = some (.cells #[.int .i64 0, .int .i64 0, .int .i64 0] 45 (0, 0))) := Lib.hid (by simpa using heap_alloc_new (w.alloc (.cells #[.slice a n cap] 27)) (.cells #[.int .i64 0, .int .i64 0, .int .i64 0] 45))
  have T0 := Lib.hid (Below.refl ((w.alloc (.cells #[.slice a n cap] 27)).alloc (.cells #[.int .i64 0, .int .i64 0, .int .i64 0] 45)).heap.size ((w.alloc (.cells #[.slice a n cap] 27)).alloc (.cells #[.int .i64 0, .int .i64 0, .int .i64 0] 45)))
  clear hi hn
  obtain ⟨p, EP⟩ : ∃ p, Hid (l.getD 0 1 = p) := ⟨_, Lib.hid rfl⟩
  obtain ⟨q, EQ⟩ : ∃ q, Hid (l.getD 1 1 = q) := ⟨_, Lib.hid rfl⟩
  obtain ⟨r, ER⟩ : ∃ r, Hid (l.getD 2 1 = r) := ⟨_, Lib.hid rfl⟩
  have hs2 : isS l s = true ∧ (s == 0) = false := by
    unfold fullB at hs
    simpa using hs
  have HS := Lib.hid hs2.1
  have h0 : (s == 0) = false := hs2.2
  rw [EP.out, EQ.out, ER.out]
  clear hs hs2
  go_enter Tryd.func53, Tryd.ntmps53
  go_wp2_with (first | (go_at_call 51; refine (iSetIn_yes _ _ _ _ _ _ HN.out hm (HI.out.below rfl T0.out) HS.out).mono ?_; rw [EP.out, EQ.out, ER.out]; rintro e w1 ⟨rfl, hb1⟩; have S1 := Lib.hid (T0.out.trans (hb1.mono T0.out.size)); have T1 := Lib.hid (S1.out.alloc S1.out.size (.cells #[.int .i64 p, .int .i64 q, .int .i64 r] 45)); have cs1 := keepC S1.out (by simp <;> omega) C1; have c1 := keepC T1.out (by simp <;> omega) C1; have R7 := Lib.hid (heap_alloc_new w1 (.cells #[.int .i64 p, .int .i64 q, .int .i64 r] 45)); obtain ⟨x10, x11, x12, x1f0, x1f1, x1f2⟩ := trip_cell (keepH T1.out (by simp <;> omega) R1.out); obtain ⟨z0, z1, z2, zf0, zf1, zf2⟩ := trip_cell R7.out))
  refine bodyPost_ret (v := .tuple #[tV p q r, .int .u64 s, .nilIface]) (by simp [results, Tryd.results53, go_sem, x10, x11, x12]) rfl ⟨rfl, below_set3 (HB.out.trans (T1.out.mono (by simp <;> omega))) (by omega)⟩
set_option maxHeartbeats 4000000 in
theorem iFSS_no (w : World) (a : Option Addr) (l : List Int) (n cap : Nat) (s t : Int) (hn : n = l.length) (hm : n ≤ 9223372036854775807) (hi : Ints w a l) (hs : neB l s t = false) :
    Calls Tryd.prog 35 #[.agg #[.slice a n cap], .int .i64 s, .int .i64 t] w fun e w' => ∃ x y, e = .returned (.tuple #[tV 0 0 0, .int .u64 0, .int .u64 0, .iface 67 (.agg #[.string (x), .string (y)])]) ∧ Below w.heap.size w w' := by
  have HI := Lib.hid (ints_alloc (ints_alloc hi (.cells #[.slice a n cap] 27)) (.cells #[.int .i64 0, .int .i64 0, .int .i64 0] 45))
  have HN := Lib.hid hn
  have C1 := keepC (Joins.below_alloc1 _ (.cells #[.int .i64 0, .int .i64 0, .int .i64 0] 45)) (by simp <;> omega) (newC w (.slice a n cap) 27 (n := w.heap.size) rfl)
  have HB := Lib.hid (Joins.below_alloc2 w (.cells #[.slice a n cap] 27) (.cells #[.int .i64 0, .int .i64 0, .int .i64 0] 45))
  have R1 : Hid (((w.alloc (.cells #[.slice a n cap] 27)).alloc (.cells #[.int .i64 0, .int .i64 0, .int .i64 0] 45)).heap[w.heap.size + 1]? = some (.cells #[.int .i64 0, .int .i64 0, .int .i64 0] 45 (0, 0))) := Lib.hid (by simpa using heap_alloc_new (w.alloc (.cells #[.slice a n cap] 27)) (.cells #[.int .i64 0, .int .i64 0, .int .i64 0] 45))
  have T0 := Lib.hid (Below.refl ((w.alloc (.cells #[.slice a n cap] 27)).alloc (.cells #[.int .i64 0, .int .i64 0, .int .i64 0] 45)).heap.size ((w.alloc (.cells #[.slice a n cap] 27)).alloc (.cells #[.int .i64 0, .int .i64 0, .int .i64 0] 45)))
  clear hi hn
  obtain ⟨p, EP⟩ : ∃ p, Hid (l.getD 0 1 = p) := ⟨_, Lib.hid rfl⟩
  obtain ⟨q, EQ⟩ : ∃ q, Hid (l.getD 1 1 = q) := ⟨_, Lib.hid rfl⟩
  obtain ⟨r, ER⟩ : ∃ r, Hid (l.getD 2 1 = r) := ⟨_, Lib.hid rfl⟩
  rw [neB_full] at hs
  cases h1 : fullB l s with
  | false =>
    have HS := Lib.hid h1
    clear hs h1
    go_enter Tryd.func35, Tryd.ntmps35
    go_wp2_with (first | (go_at_call 53; refine (iFS_no _ _ _ _ _ _ _ HN.out hm (HI.out.below rfl T0.out) HS.out).mono ?_; rintro e w1 ⟨ex1, ey1, rfl, hb1⟩; have S1 := Lib.hid (T0.out.trans (hb1.mono T0.out.size)); have T1 := Lib.hid (S1.out.alloc S1.out.size (.cells #[.int .i64 0, .int .i64 0, .int .i64 0] 45)); have cs1 := keepC S1.out (by simp <;> omega) C1; have c1 := keepC T1.out (by simp <;> omega) C1; have R7 := Lib.hid (heap_alloc_new w1 (.cells #[.int .i64 0, .int .i64 0, .int .i64 0] 45)); obtain ⟨x10, x11, x12, x1f0, x1f1, x1f2⟩ := trip_cell (keepH T1.out (by simp <;> omega) R1.out); obtain ⟨z0, z1, z2, zf0, zf1, zf2⟩ := trip_cell R7.out))
    refine bodyPost_ret (v := .tuple #[tV 0 0 0, .int .u64 0, .int .u64 0, .iface 67 (.agg #[.string (ex1), .string (ey1)])]) (by simp [results, Tryd.results35, go_sem, x10, x11, x12]) rfl ⟨_, _, rfl, below_set3 (HB.out.trans (T1.out.mono (by simp <;> omega))) (by omega)⟩
  | true =>
    have HS := Lib.hid h1
    rw [h1, Bool.true_and] at hs
    have HS2 := Lib.hid hs
    clear hs h1
    go_enter Tryd.func35, Tryd.ntmps35
    go_wp2_with (first
      | (go_at_call 53; have hx_ := T1; clear hx_; refine (iFS_no _ _ _ _ _ _ _ HN.out hm (HI.out.below rfl T1.out) HS2.out).mono ?_; rintro e w2 ⟨ex2, ey2, rfl, hb2⟩; have S2 := Lib.hid (T1.out.trans (hb2.mono T1.out.size)); have T2 := Lib.hid (S2.out.alloc S2.out.size (.cells #[.int .i64 0, .int .i64 0, .int .i64 0] 45)); have cs2 := keepC S2.out (by simp <;> omega) C1; have c2 := keepC T2.out (by simp <;> omega) C1; have R8 := Lib.hid (heap_alloc_new w2 (.cells #[.int .i64 0, .int .i64 0, .int .i64 0] 45)); obtain ⟨x20, x21, x22, x2f0, x2f1, x2f2⟩ := trip_cell (keepH T2.out (by simp <;> omega) R1.out); obtain ⟨y0, y1, y2, yf0, yf1, yf2⟩ := trip_cell (keepH (hb2.alloc hb2.size (.cells #[.int .i64 0, .int .i64 0, .int .i64 0] 45)) (by simp <;> omega) R7.out))
      | (go_at_call 53; refine (iFS_yes _ _ _ _ _ _ _ HN.out hm (HI.out.below rfl T0.out) HS.out).mono ?_; rw [EP.out, EQ.out, ER.out]; rintro e w1 ⟨rfl, hb1⟩; have S1 := Lib.hid (T0.out.trans (hb1.mono T0.out.size)); have T1 := Lib.hid (S1.out.alloc S1.out.size (.cells #[.int .i64 p, .int .i64 q, .int .i64 r] 45)); have cs1 := keepC S1.out (by simp <;> omega) C1; have c1 := keepC T1.out (by simp <;> omega) C1; have R7 := Lib.hid (heap_alloc_new w1 (.cells #[.int .i64 p, .int .i64 q, .int .i64 r] 45)); obtain ⟨x10, x11, x12, x1f0, x1f1, x1f2⟩ := trip_cell (keepH T1.out (by simp <;> omega) R1.out); obtain ⟨z0, z1, z2, zf0, zf1, zf2⟩ := trip_cell R7.out))
    refine bodyPost_ret (v := .tuple #[tV 0 0 0, .int .u64 0, .int .u64 0, .iface 67 (.agg #[.string (ex2), .string (ey2)])]) (by simp [results, Tryd.results35, go_sem, x20, x21, x22]) rfl ⟨_, _, rfl, below_set3 (HB.out.trans (T2.out.mono (by simp <;> omega))) (by omega)⟩
set_option maxHeartbeats 4000000 in
theorem iFSS_yes (w : World) (a : Option Addr) (l : List Int) (n cap : Nat) (s t : Int) (hn : n = l.length) (hm : n ≤ 9223372036854775807) (hi : Ints w a l) (hs : neB l s t = true) :
    Calls Tryd.prog 35 #[.agg #[.slice a n cap], .int .i64 s, .int .i64 t] w fun e w' => e = .returned (.tuple #[tV (l.getD 0 1) (l.getD 1 1) (l.getD 2 1), .int .u64 s, .int .u64 t, .nilIface]) ∧ Below w.heap.size w w' := by
  have HI := Lib.hid (ints_alloc (ints_alloc hi (.cells #[.slice a n cap] 27)) (.cells #[.int .i64 0, .int .i64 0, .int .i64 0] 45))
  have HN := Lib.hid hn
  have C1 := keepC (Joins.below_alloc1 _ (.cells #[.int .i64 0, .int .i64 0, .int .i64 0] 45)) (by simp <;> omega) (newC w (.slice a n cap) 27 (n := w.heap.size) rfl)
  have HB := Lib.hid (Joins.below_alloc2 w (.cells #[.slice a n cap] 27) (.cells #[.int .i64 0, .int .i64 0, .int .i64 0] 45))
  have R1 : Hid (((w.alloc (.cells #[.slice a n cap] 27)).alloc (.cells #[.int .i64 0, .int .i64 0, .int .i64 0] 45)).heap[w.heap.size + 1]? = some (.cells #[.int .i64 0, .int .i64 0, .int .i64 0] 45 (0, 0))) := Lib.hid (by simpa using heap_alloc_new (w.alloc (.cells #[.slice a n cap] 27)) (.cells #[.int .i64 0, .int .i64 0, .int .i64 0] 45))
  have T0 := Lib.hid (Below.refl ((w.alloc (.cells #[.slice a n cap] 27)).alloc (.cells #[.int .i64 0, .int .i64 0, .int .i64 0] 45)).heap.size ((w.alloc (.cells #[.slice a n cap] 27)).alloc (.cells #[.int .i64 0, .int .i64 0, .int .i64 0] 45)))
  clear hi hn
  obtain ⟨p, EP⟩ : ∃ p, Hid (l.getD 0 1 = p) := ⟨_, Lib.hid rfl⟩
  obtain ⟨q, EQ⟩ : ∃ q, Hid (l.getD 1 1 = q) := ⟨_, Lib.hid rfl⟩
  obtain ⟨r, ER⟩ : ∃ r, Hid (l.getD 2 1 = r) := ⟨_, Lib.hid rfl⟩
  rw [neB_full, Bool.and_eq_true] at hs
  have HS := Lib.hid hs.1
  have HS2 := Lib.hid hs.2
  rw [EP.out, EQ.out, ER.out]
  clear hs
  go_enter Tryd.func35, Tryd.ntmps35
  go_wp2_with (first
    | (go_at_call 53; have hx_ := T1; clear hx_; refine (iFS_yes _ _ _ _ _ _ _ HN.out hm (HI.out.below rfl T1.out) HS2.out).mono ?_; rw [EP.out, EQ.out, ER.out]; rintro e w2 ⟨rfl, hb2⟩; have S2 := Lib.hid (T1.out.trans (hb2.mono T1.out.size)); have T2 := Lib.hid (S2.out.alloc S2.out.size (.cells #[.int .i64 p, .int .i64 q, .int .i64 r] 45)); have cs2 := keepC S2.out (by simp <;> omega) C1; have c2 := keepC T2.out (by simp <;> omega) C1; have R8 := Lib.hid (heap_alloc_new w2 (.cells #[.int .i64 p, .int .i64 q, .int .i64 r] 45)); obtain ⟨x20, x21, x22, x2f0, x2f1, x2f2⟩ := trip_cell (keepH T2.out (by simp <;> omega) R1.out); obtain ⟨y0, y1, y2, yf0, yf1, yf2⟩ := trip_cell (keepH (hb2.alloc hb2.size (.cells #[.int .i64 p, .int .i64 q, .int .i64 r] 45)) (by simp <;> omega) R7.out))
    | (go_at_call 53; refine (iFS_yes _ _ _ _ _ _ _ HN.out hm (HI.out.below rfl T0.out) HS.out).mono ?_; rw [EP.out, EQ.out, ER.out]; rintro e w1 ⟨rfl, hb1⟩; have S1 := Lib.hid (T0.out.trans (hb1.mono T0.out.size)); have T1 := Lib.hid (S1.out.alloc S1.out.size (.cells #[.int .i64 p, .int .i64 q, .int .i64 r] 45)); have cs1 := keepC S1.out (by simp <;> omega) C1; have c1 := keepC T1.out (by simp <;> omega) C1; have R7 := Lib.hid (heap_alloc_new w1 (.cells #[.int .i64 p, .int .i64 q, .int .i64 r] 45)); obtain ⟨x10, x11, x12, x1f0, x1f1, x1f2⟩ := trip_cell (keepH T1.out (by simp <;> omega) R1.out); obtain ⟨z0, z1, z2, zf0, zf1, zf2⟩ := trip_cell R7.out))
  refine bodyPost_ret (v := .tuple #[tV p q r, .int .u64 s, .int .u64 t, .nilIface]) (by simp [results, Tryd.results35, go_sem, x20, x21, x22]) rfl ⟨rfl, below_set3 (HB.out.trans (T2.out.mono (by simp <;> omega))) (by omega)⟩
end Go.Proofs.YtaacofbmbpkeoaaDoor
