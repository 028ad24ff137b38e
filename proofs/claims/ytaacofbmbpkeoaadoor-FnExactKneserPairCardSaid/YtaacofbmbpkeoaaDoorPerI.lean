/- The program's own stabilizer: isKeptBy, where, stabilizer. -/
import Derived.Test.YtaacofbmbpkeoaaDoorGenI
import Derived.Test.YtaacofbmbpkeoaaDoorPERA
import Derived.Deep.RegionHeld3
import Derived.Deep.DeepCutAuto
namespace Go.Proofs.YtaacofbmbpkeoaaDoor
open Go.RowKit Go.Shelf
attribute [local go_sem] Oper.semAt_some
set_option maxRecDepth 1000000
theorem quad_cell {w : World} {B : Nat} {x y z u : Value} {T : TypeId} (h : w.heap[B]? = some (.cells #[x, y, z, u] T (0, 0))) :
    w.cell? ⟨B, 0, none⟩ = some x ∧ w.cell? ⟨B, 1, none⟩ = some y ∧ w.cell? ⟨B, 2, none⟩ = some z ∧ w.cell? ⟨B, 3, none⟩ = some u :=
  ⟨by simp [World.cell?, h], by simp [World.cell?, h], by simp [World.cell?, h], by simp [World.cell?, h]⟩
set_option maxHeartbeats 1000000 in
theorem iKept {l : List Int} (hg : grpB l = true) (w : World) (s x : Nat) (hs : s < 2 ^ (prodI l).toNat) (hx : (x : Int) < prodI l) :
    Calls Tryd.prog 62 #[.agg #[.int .i64 (l.getD 0 1), .int .i64 (l.getD 1 1), .int .i64 (l.getD 2 1), .int .u64 s], .int .i64 x] w fun e w' => e = .returned (.bool (movN l s x == s)) ∧ Below w.heap.size w w' := by
  have HSH := Lib.hid (fun (W : World) => iMov hg W s x hs hx)
  obtain ⟨p, EP⟩ : ∃ p, Hid (l.getD 0 1 = p) := ⟨_, Lib.hid rfl⟩
  obtain ⟨q, EQ⟩ : ∃ q, Hid (l.getD 1 1 = q) := ⟨_, Lib.hid rfl⟩
  obtain ⟨r, ER⟩ : ∃ r, Hid (l.getD 2 1 = r) := ⟨_, Lib.hid rfl⟩
  rw [EP.out, EQ.out, ER.out] at HSH ⊢
  obtain ⟨V, hV⟩ : ∃ V, movN l s x = V := ⟨_, rfl⟩
  rw [hV] at HSH ⊢
  have HB := Lib.hid (Joins.below_alloc1 w (.cells #[.int .i64 p, .int .i64 q, .int .i64 r, .int .u64 s] 76))
  obtain ⟨c0, c1, c2, c3⟩ := quad_cell (heap_alloc_new w (.cells #[.int .i64 p, .int .i64 q, .int .i64 r, .int .u64 s] 76))
  clear hV hs hx hg
  by_cases hvs : V = s
  · subst hvs
    go_enter Tryd.func62, Tryd.ntmps62
    go_wp2
    have T0 := Lib.hid (Below.refl (w.alloc (.cells #[.int .i64 p, .int .i64 q, .int .i64 r, .int .u64 (V : Nat)] 76)).heap.size (w.alloc (.cells #[.int .i64 p, .int .i64 q, .int .i64 r, .int .u64 (V : Nat)] 76)))
    have TD := Lib.hid T0.out.drew
    go_region_held3 (fun W => W.cell? ⟨w.heap.size, 0, none⟩ = some (.int .i64 p) ∧ W.cell? ⟨w.heap.size, 1, none⟩ = some (.int .i64 q) ∧ W.cell? ⟨w.heap.size, 2, none⟩ = some (.int .i64 r) ∧ W.cell? ⟨w.heap.size, 3, none⟩ = some (.int .u64 (V : Nat))) (first | exact ⟨d0, d1, d2, d3⟩ | exact ⟨c0, c1, c2, c3⟩)
      (first | (go_at_call 60; refine (HSH.out _).mono ?_; rintro e w1 ⟨rfl, hb1⟩; have T1 := Lib.hid (TD.out.trans (hb1.mono TD.out.size)); have d0 := keepC T1.out (by simp) c0; have d1 := keepC T1.out (by simp) c1; have d2 := keepC T1.out (by simp) c2; have d3 := keepC T1.out (by simp) c3))
    go_wp2
    go_ret
    exact ⟨by simp, HB.out.trans (T1.out.mono (by simp))⟩
  · have hne : ((V : Int) == (s : Int)) = false := by
      have : (V : Int) ≠ (s : Int) := by omega
      simpa using this
    have hnn : (V == s) = false := by simpa using hvs
    go_enter Tryd.func62, Tryd.ntmps62
    go_wp2
    have T0 := Lib.hid (Below.refl (w.alloc (.cells #[.int .i64 p, .int .i64 q, .int .i64 r, .int .u64 (s : Nat)] 76)).heap.size (w.alloc (.cells #[.int .i64 p, .int .i64 q, .int .i64 r, .int .u64 (s : Nat)] 76)))
    have TD := Lib.hid T0.out.drew
    go_region_held3 (fun W => W.cell? ⟨w.heap.size, 0, none⟩ = some (.int .i64 p) ∧ W.cell? ⟨w.heap.size, 1, none⟩ = some (.int .i64 q) ∧ W.cell? ⟨w.heap.size, 2, none⟩ = some (.int .i64 r) ∧ W.cell? ⟨w.heap.size, 3, none⟩ = some (.int .u64 (s : Nat))) (first | exact ⟨d0, d1, d2, d3⟩ | exact ⟨c0, c1, c2, c3⟩)
      (first | (go_at_call 60; refine (HSH.out _).mono ?_; rintro e w1 ⟨rfl, hb1⟩; have T1 := Lib.hid (TD.out.trans (hb1.mono TD.out.size)); have d0 := keepC T1.out (by simp) c0; have d1 := keepC T1.out (by simp) c1; have d2 := keepC T1.out (by simp) c2; have d3 := keepC T1.out (by simp) c3))
    go_wp2
    go_ret
    exact ⟨by simp [hnn], HB.out.trans (T1.out.mono (by simp))⟩
set_option maxHeartbeats 2000000 in
theorem iStabT {l : List Int} (hg : grpB l = true) (w : World) (s : Nat) (hs : s < 2 ^ (prodI l).toNat) :
    Calls Tryd.prog 61 #[tV (l.getD 0 1) (l.getD 1 1) (l.getD 2 1), .func (.func 62) #[.agg #[.int .i64 (l.getD 0 1), .int .i64 (l.getD 1 1), .int .i64 (l.getD 2 1), .int .u64 s]] #[]] w fun e w' => e = .returned (.int .u64 (stN l s : Nat)) ∧ Below w.heap.size w w' := by
  have hP := (ords_grp hg).prod
  obtain ⟨P, hPe⟩ : ∃ P : Nat, prodI l = (P : Int) := ⟨(prodI l).toNat, by omega⟩
  have HK := Lib.hid (fun (W : World) (k : Nat) (hk : (k : Int) < prodI l) => iKept hg W s k hs hk)
  have HPR := Lib.hid (fun (W : World) => iProduct W _ _ _ (tri_grp hg))
  rw [← prod_pad (grpB_true hg).1, hPe] at HPR
  rw [hPe] at hP HK
  rw [show stN l s = stK l s P by unfold stN; rw [hPe, Int.toNat_natCast]]
  have hP24 : P ≤ 24 := by omega
  obtain ⟨p, EP⟩ : ∃ p, Hid (l.getD 0 1 = p) := ⟨_, Lib.hid rfl⟩
  obtain ⟨q, EQ⟩ : ∃ q, Hid (l.getD 1 1 = q) := ⟨_, Lib.hid rfl⟩
  obtain ⟨r, ER⟩ : ∃ r, Hid (l.getD 2 1 = r) := ⟨_, Lib.hid rfl⟩
  rw [EP.out, EQ.out, ER.out] at HK HPR
  rw [EP.out, EQ.out, ER.out]
  have HAL := Lib.hid (heap_alloc_new w (.cells #[.int .i64 p, .int .i64 q, .int .i64 r] 45))
  have HB := Lib.hid (Joins.below_alloc1 w (.cells #[.int .i64 p, .int .i64 q, .int .i64 r] 45))
  have T0 := Lib.hid (Below.refl (w.alloc (.cells #[.int .i64 p, .int .i64 q, .int .i64 r] 45)).heap.size (w.alloc (.cells #[.int .i64 p, .int .i64 q, .int .i64 r] 45)))
  clear hP hs hPe hg
  go_enter Tryd.func61, Tryd.ntmps61
  go_wp2_with (go_at_call 38; refine (HPR.out _).mono ?_; rintro e w1 ⟨rfl, hb1⟩; have T1 := Lib.hid (T0.out.trans hb1); clear hb1)
  go_loopw [5, 9] (fun o i wr => ∃ k : Nat, k ≤ P ∧ i = .int .i64 k ∧ o = .int .u64 (stK l s k : Nat) ∧ Below (w.alloc (.cells #[.int .i64 p, .int .i64 q, .int .i64 r] 45)).heap.size (w.alloc (.cells #[.int .i64 p, .int .i64 q, .int .i64 r] 45)) wr) (fun _ i _ => P - (intOf i).toNat)
  case atStart => exact ⟨0, Nat.zero_le _, rfl, rfl, T1.out⟩
  case round =>
    obtain ⟨k, hk, rfl, rfl, hbel⟩ := hrel
    have HBL := Lib.hid hbel
    by_cases hlt : k < P
    · have hk23 : k ≤ 23 := by omega
      have hkP : (k : Int) < (P : Int) := by omega
      have HY := Lib.hid (fun h => stK_yes (l := l) (s := s) (k := k) h)
      have HZ := Lib.hid (fun h => stK_no (l := l) (s := s) (k := k) h)
      have hS24 : stK l s k < 16777216 := stK_lt24 l s (by omega)
      have HKK := Lib.hid (fun (W : World) => HK.out W k hkP)
      obtain ⟨S, hSS⟩ : ∃ S, stK l s k = S := ⟨_, rfl⟩
      obtain ⟨V, hV⟩ : ∃ V, movN l s k = V := ⟨_, rfl⟩
      rw [hSS] at HY HZ hS24
      rw [hSS]
      rw [hV] at HY HZ HKK
      have HS24 := Lib.hid hS24
      clear hSS hV hS24 hbel
      by_cases hvs : V = s
      · have E1 := Lib.hid (HY.out hvs)
        have HQ : Hid ((V == s) = true) := Lib.hid (by simpa using hvs)
        clear HY HZ hvs
        go_wp2_with (first
          | (go_at_call 74; refine (iWith _ S k HS24.out hk23).mono ?_; rintro e w6 ⟨rfl, rfl⟩)
          | (go_at_call 62; refine (HKK.out _).mono ?_; rw [HQ.out]; rintro e w5 ⟨rfl, hb5⟩))
        go_roundw
        case rel => exact ⟨k + 1, by omega, by go_num, by rw [E1.out], HBL.out.trans (hb5.mono HBL.out.size)⟩
        case measure => simp [intOf]; omega
      · have E1 := Lib.hid (HZ.out hvs)
        have HQ : Hid ((V == s) = false) := Lib.hid (by simpa using hvs)
        clear HY HZ hvs
        go_wp2_with (go_at_call 62; refine (HKK.out _).mono ?_; rw [HQ.out]; rintro e w5 ⟨rfl, hb5⟩)
        go_roundw
        case rel => exact ⟨k + 1, by omega, by go_num, by rw [E1.out], HBL.out.trans (hb5.mono HBL.out.size)⟩
        case measure => simp [intOf]; omega
    · obtain rfl : k = P := by omega
      clear hbel
      go_wp2
      go_ret
      exact ⟨rfl, HB.out.trans (HBL.out.mono (by simp))⟩
set_option maxHeartbeats 1000000 in
theorem iStabN {l : List Int} (hg : grpB l = true) (w : World) (s : Nat) (hs : s < 2 ^ (prodI l).toNat) :
    Calls Tryd.prog 46 #[tV (l.getD 0 1) (l.getD 1 1) (l.getD 2 1), .int .u64 s] w fun e w' => e = .returned (.int .u64 (stN l s : Nat)) ∧ Below w.heap.size w w' := by
  have hmf : ∀ (fn : Fn) (first cap : Array Value) (w : World), (Instr.makeFunc fn first cap).run Tryd.prog w = .ok (.func fn first cap) w := fun _ _ _ _ => rfl
  have HK := Lib.hid (fun (W : World) => iStabT hg W s hs)
  obtain ⟨p, EP⟩ : ∃ p, Hid (l.getD 0 1 = p) := ⟨_, Lib.hid rfl⟩
  obtain ⟨q, EQ⟩ : ∃ q, Hid (l.getD 1 1 = q) := ⟨_, Lib.hid rfl⟩
  obtain ⟨r, ER⟩ : ∃ r, Hid (l.getD 2 1 = r) := ⟨_, Lib.hid rfl⟩
  rw [EP.out, EQ.out, ER.out] at HK
  rw [EP.out, EQ.out, ER.out]
  have HB := Lib.hid (Joins.below_alloc1 w (.cells #[.int .i64 p, .int .i64 q, .int .i64 r] 45))
  obtain ⟨c0, c1, c2, _, _, _⟩ := trip_cell (heap_alloc_new w (.cells #[.int .i64 p, .int .i64 q, .int .i64 r] 45))
  clear hs hg
  go_enter Tryd.func46, Tryd.ntmps46
  go_wp2_with (go_at_call 61; refine (HK.out _).mono ?_; rintro e w2 ⟨rfl, hb2⟩)
  go_ret
  exact ⟨rfl, HB.out.trans (hb2.mono (by simp))⟩
end Go.Proofs.YtaacofbmbpkeoaaDoor
