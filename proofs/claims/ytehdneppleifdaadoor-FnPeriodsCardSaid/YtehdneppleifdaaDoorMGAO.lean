/- Merged: PerI Lst WoI. -/
import Derived.Test.YtehdneppleifdaaDoorMGAL
import Derived.Test.YtehdneppleifdaaDoorMGAT
import Derived.Deep.RegionHeld3
import Derived.Deep.DeepCutAuto
import Derived.Test.YtehdneppleifdaaDoorMGAK
import Derived.Test.YtehdneppleifdaaDoorMGAI
import Derived.Test.YtehdneppleifdaaDoorShiftN
import Derived.Test.YtehdneppleifdaaDoorSumMath
namespace Go.Proofs.YtehdneppleifdaaDoor
open Go.RowKit Go.Shelf
attribute [local go_sem] Oper.semAt_some
set_option maxRecDepth 1000000
theorem quad_cell {w : World} {B : Nat} {x y z u : Value} {T : TypeId} (h : w.heap[B]? = some (.cells #[x, y, z, u] T (0, 0))) :
    w.cell? ⟨B, 0, none⟩ = some x ∧ w.cell? ⟨B, 1, none⟩ = some y ∧ w.cell? ⟨B, 2, none⟩ = some z ∧ w.cell? ⟨B, 3, none⟩ = some u :=
  ⟨by simp [World.cell?, h], by simp [World.cell?, h], by simp [World.cell?, h], by simp [World.cell?, h]⟩
set_option maxHeartbeats 1000000 in
theorem iKept {l : List Int} (hg : grpB l = true) (w : World) (s x : Nat) (hs : s < 2 ^ (prodI l).toNat) (hx : (x : Int) < prodI l) :
    Calls Tryd.prog 58 #[.agg #[.int .i64 (l.getD 0 1), .int .i64 (l.getD 1 1), .int .i64 (l.getD 2 1), .int .u64 s], .int .i64 x] w fun e w' => e = .returned (.bool (movN l s x == s)) ∧ Below w.heap.size w w' := by
  have HSH := Lib.hid (fun (W : World) => iMov hg W s x hs hx)
  obtain ⟨p, EP⟩ : ∃ p, Hid (l.getD 0 1 = p) := ⟨_, Lib.hid rfl⟩
  obtain ⟨q, EQ⟩ : ∃ q, Hid (l.getD 1 1 = q) := ⟨_, Lib.hid rfl⟩
  obtain ⟨r, ER⟩ : ∃ r, Hid (l.getD 2 1 = r) := ⟨_, Lib.hid rfl⟩
  rw [EP.out, EQ.out, ER.out] at HSH ⊢
  obtain ⟨V, hV⟩ : ∃ V, movN l s x = V := ⟨_, rfl⟩
  rw [hV] at HSH ⊢
  have HB := Lib.hid (Joins.below_alloc1 w (.cells #[.int .i64 p, .int .i64 q, .int .i64 r, .int .u64 s] 73))
  obtain ⟨c0, c1, c2, c3⟩ := quad_cell (heap_alloc_new w (.cells #[.int .i64 p, .int .i64 q, .int .i64 r, .int .u64 s] 73))
  clear hV hs hx hg
  by_cases hvs : V = s
  · subst hvs
    go_enter Tryd.func58, Tryd.ntmps58
    go_wp2
    have T0 := Lib.hid (Below.refl (w.alloc (.cells #[.int .i64 p, .int .i64 q, .int .i64 r, .int .u64 (V : Nat)] 73)).heap.size (w.alloc (.cells #[.int .i64 p, .int .i64 q, .int .i64 r, .int .u64 (V : Nat)] 73)))
    have TD := Lib.hid T0.out.drew
    go_region_held3 (fun W => W.cell? ⟨w.heap.size, 0, none⟩ = some (.int .i64 p) ∧ W.cell? ⟨w.heap.size, 1, none⟩ = some (.int .i64 q) ∧ W.cell? ⟨w.heap.size, 2, none⟩ = some (.int .i64 r) ∧ W.cell? ⟨w.heap.size, 3, none⟩ = some (.int .u64 (V : Nat))) (first | exact ⟨d0, d1, d2, d3⟩ | exact ⟨c0, c1, c2, c3⟩)
      (first | (go_at_call 65; refine (HSH.out _).mono ?_; rintro e w1 ⟨rfl, hb1⟩; have T1 := Lib.hid (TD.out.trans (hb1.mono TD.out.size)); have d0 := keepC T1.out (by simp) c0; have d1 := keepC T1.out (by simp) c1; have d2 := keepC T1.out (by simp) c2; have d3 := keepC T1.out (by simp) c3))
    go_wp2
    go_ret
    exact ⟨by simp, HB.out.trans (T1.out.mono (by simp))⟩
  · have hne : ((V : Int) == (s : Int)) = false := by
      have : (V : Int) ≠ (s : Int) := by omega
      simpa using this
    have hnn : (V == s) = false := by simpa using hvs
    go_enter Tryd.func58, Tryd.ntmps58
    go_wp2
    have T0 := Lib.hid (Below.refl (w.alloc (.cells #[.int .i64 p, .int .i64 q, .int .i64 r, .int .u64 (s : Nat)] 73)).heap.size (w.alloc (.cells #[.int .i64 p, .int .i64 q, .int .i64 r, .int .u64 (s : Nat)] 73)))
    have TD := Lib.hid T0.out.drew
    go_region_held3 (fun W => W.cell? ⟨w.heap.size, 0, none⟩ = some (.int .i64 p) ∧ W.cell? ⟨w.heap.size, 1, none⟩ = some (.int .i64 q) ∧ W.cell? ⟨w.heap.size, 2, none⟩ = some (.int .i64 r) ∧ W.cell? ⟨w.heap.size, 3, none⟩ = some (.int .u64 (s : Nat))) (first | exact ⟨d0, d1, d2, d3⟩ | exact ⟨c0, c1, c2, c3⟩)
      (first | (go_at_call 65; refine (HSH.out _).mono ?_; rintro e w1 ⟨rfl, hb1⟩; have T1 := Lib.hid (TD.out.trans (hb1.mono TD.out.size)); have d0 := keepC T1.out (by simp) c0; have d1 := keepC T1.out (by simp) c1; have d2 := keepC T1.out (by simp) c2; have d3 := keepC T1.out (by simp) c3))
    go_wp2
    go_ret
    exact ⟨by simp [hnn], HB.out.trans (T1.out.mono (by simp))⟩
set_option maxHeartbeats 2000000 in
theorem iStabT {l : List Int} (hg : grpB l = true) (w : World) (s : Nat) (hs : s < 2 ^ (prodI l).toNat) :
    Calls Tryd.prog 57 #[tV (l.getD 0 1) (l.getD 1 1) (l.getD 2 1), .func (.func 58) #[.agg #[.int .i64 (l.getD 0 1), .int .i64 (l.getD 1 1), .int .i64 (l.getD 2 1), .int .u64 s]] #[]] w fun e w' => e = .returned (.int .u64 (stN l s : Nat)) ∧ Below w.heap.size w w' := by
  have hP := (ords_grp hg).prod
  obtain ⟨P, hPe⟩ : ∃ P : Nat, prodI l = (P : Int) := ⟨(prodI l).toNat, by omega⟩
  have HK := Lib.hid (fun (W : World) (k : Nat) (hk : (k : Int) < prodI l) => iKept hg W s k hs hk)
  have HPR := Lib.hid (fun (W : World) => iProduct W _ _ _ (tri_grp hg))
  rw [← prod_pad (grpB_true hg).1, hPe] at HPR
  rw [hPe] at hP HK
  rw [show stN l s = stK l s P by unfold stN; rw [hPe, Int.toNat_natCast]]
  have hP24 : P ≤ 24 := by omega
  obtain ⟨p, EP⟩ : ∃ p, Hid (l.getD 0 1 = p) := ⟨_, Lib.hid rfl⟩
  obtain ⟨q, EQ⟩ : ∃ q, Hid (l.getD 1 1 = q) := ⟨_, Lib.hid rfl⟩
  obtain ⟨r, ER⟩ : ∃ r, Hid (l.getD 2 1 = r) := ⟨_, Lib.hid rfl⟩
  rw [EP.out, EQ.out, ER.out] at HK HPR
  rw [EP.out, EQ.out, ER.out]
  have HAL := Lib.hid (heap_alloc_new w (.cells #[.int .i64 p, .int .i64 q, .int .i64 r] 46))
  have HB := Lib.hid (Joins.below_alloc1 w (.cells #[.int .i64 p, .int .i64 q, .int .i64 r] 46))
  have T0 := Lib.hid (Below.refl (w.alloc (.cells #[.int .i64 p, .int .i64 q, .int .i64 r] 46)).heap.size (w.alloc (.cells #[.int .i64 p, .int .i64 q, .int .i64 r] 46)))
  clear hP hs hPe hg
  go_enter Tryd.func57, Tryd.ntmps57
  go_wp2_with (go_at_call 68; refine (HPR.out _).mono ?_; rintro e w1 ⟨rfl, hb1⟩; have T1 := Lib.hid (T0.out.trans hb1); clear hb1)
  go_loopw [5, 9] (fun o i wr => ∃ k : Nat, k ≤ P ∧ i = .int .i64 k ∧ o = .int .u64 (stK l s k : Nat) ∧ Below (w.alloc (.cells #[.int .i64 p, .int .i64 q, .int .i64 r] 46)).heap.size (w.alloc (.cells #[.int .i64 p, .int .i64 q, .int .i64 r] 46)) wr) (fun _ i _ => P - (intOf i).toNat)
  case atStart => exact ⟨0, Nat.zero_le _, rfl, rfl, T1.out⟩
  case round =>
    obtain ⟨k, hk, rfl, rfl, hbel⟩ := hrel
    have HBL := Lib.hid hbel
    by_cases hlt : k < P
    · have hk23 : k ≤ 23 := by omega
      have hkP : (k : Int) < (P : Int) := by omega
      have HY := Lib.hid (fun h => stK_yes (l := l) (s := s) (k := k) h)
      have HZ := Lib.hid (fun h => stK_no (l := l) (s := s) (k := k) h)
      have hS24 : stK l s k < 16777216 := stK_lt24 l s (by omega)
      have HKK := Lib.hid (fun (W : World) => HK.out W k hkP)
      obtain ⟨S, hSS⟩ : ∃ S, stK l s k = S := ⟨_, rfl⟩
      obtain ⟨V, hV⟩ : ∃ V, movN l s k = V := ⟨_, rfl⟩
      rw [hSS] at HY HZ hS24
      rw [hSS]
      rw [hV] at HY HZ HKK
      have HS24 := Lib.hid hS24
      clear hSS hV hS24 hbel
      by_cases hvs : V = s
      · have E1 := Lib.hid (HY.out hvs)
        have HQ : Hid ((V == s) = true) := Lib.hid (by simpa using hvs)
        clear HY HZ hvs
        go_wp2_with (first
          | (go_at_call 73; refine (iWith _ S k HS24.out hk23).mono ?_; rintro e w6 ⟨rfl, rfl⟩)
          | (go_at_call 58; refine (HKK.out _).mono ?_; rw [HQ.out]; rintro e w5 ⟨rfl, hb5⟩))
        go_roundw
        case rel => exact ⟨k + 1, by omega, by go_num, by rw [E1.out], HBL.out.trans (hb5.mono HBL.out.size)⟩
        case measure => simp [intOf]; omega
      · have E1 := Lib.hid (HZ.out hvs)
        have HQ : Hid ((V == s) = false) := Lib.hid (by simpa using hvs)
        clear HY HZ hvs
        go_wp2_with (go_at_call 58; refine (HKK.out _).mono ?_; rw [HQ.out]; rintro e w5 ⟨rfl, hb5⟩)
        go_roundw
        case rel => exact ⟨k + 1, by omega, by go_num, by rw [E1.out], HBL.out.trans (hb5.mono HBL.out.size)⟩
        case measure => simp [intOf]; omega
    · obtain rfl : k = P := by omega
      clear hbel
      go_wp2
      go_ret
      exact ⟨rfl, HB.out.trans (HBL.out.mono (by simp))⟩
set_option maxHeartbeats 1000000 in
theorem iStabN {l : List Int} (hg : grpB l = true) (w : World) (s : Nat) (hs : s < 2 ^ (prodI l).toNat) :
    Calls Tryd.prog 34 #[tV (l.getD 0 1) (l.getD 1 1) (l.getD 2 1), .int .u64 s] w fun e w' => e = .returned (.int .u64 (stN l s : Nat)) ∧ Below w.heap.size w w' := by
  have hmf : ∀ (fn : Fn) (first cap : Array Value) (w : World), (Instr.makeFunc fn first cap).run Tryd.prog w = .ok (.func fn first cap) w := fun _ _ _ _ => rfl
  have HK := Lib.hid (fun (W : World) => iStabT hg W s hs)
  obtain ⟨p, EP⟩ : ∃ p, Hid (l.getD 0 1 = p) := ⟨_, Lib.hid rfl⟩
  obtain ⟨q, EQ⟩ : ∃ q, Hid (l.getD 1 1 = q) := ⟨_, Lib.hid rfl⟩
  obtain ⟨r, ER⟩ : ∃ r, Hid (l.getD 2 1 = r) := ⟨_, Lib.hid rfl⟩
  rw [EP.out, EQ.out, ER.out] at HK
  rw [EP.out, EQ.out, ER.out]
  have HB := Lib.hid (Joins.below_alloc1 w (.cells #[.int .i64 p, .int .i64 q, .int .i64 r] 46))
  obtain ⟨c0, c1, c2, _, _, _⟩ := trip_cell (heap_alloc_new w (.cells #[.int .i64 p, .int .i64 q, .int .i64 r] 46))
  clear hs hg
  go_enter Tryd.func34, Tryd.ntmps34
  go_wp2_with (go_at_call 57; refine (HK.out _).mono ?_; rintro e w2 ⟨rfl, hb2⟩)
  go_ret
  exact ⟨rfl, HB.out.trans (hb2.mono (by simp))⟩
end Go.Proofs.YtehdneppleifdaaDoor

namespace Go.Proofs.YtehdneppleifdaaDoor
open Go.RowKit Go.Shelf
attribute [local go_sem] Oper.semAt_some
set_option maxRecDepth 1000000
set_option maxHeartbeats 2000000 in
theorem iList (w : World) (s : Nat) (hs : s < 16777216) (B : Nat) (hB0 : B ≤ w.heap.size) (ht : TabZ B w) :
    Calls Tryd.prog 42 #[.int .u64 s] w fun e w' => ∃ v, e = .returned v ∧ w'.ownsRow w.heap.size 3 1 v (bitsN s).length (lstN (bitsN s)) ∧ Below w.heap.size w w' := by
  obtain ⟨i0, hi, hz0, hz1, hz2⟩ := info_parts intInfo
  refine (callsIn_wide (n := 4)).1 ?_
  refine callsIn_of_wp_marks Tryd.func42 rfl trivial ?_ rfl
  simp only [Tryd.ntmps42, List.size_toArray, List.length_cons, List.length_nil, Nat.reduceAdd, Nat.reduceSub, Array.replicate_succ, Array.replicate_zero, List.push_toArray, List.append_toArray, List.nil_append, List.cons_append]
  have hcl := bits_le s
  obtain ⟨c, hc⟩ : ∃ c, Hid ((bitsN s).length = c) := ⟨_, Lib.hid rfl⟩
  have HS := Lib.hid hs
  have hc24 : c ≤ 24 := by rw [← hc.out]; exact hcl
  gi_wp2
  refine ⟨trivial, ?_⟩
  refine (callsIn_wide.2 (iCnt _ s HS.out)).mono ?_
  rw [hc.out]
  rintro e w1 ⟨rfl, rfl⟩
  gi_wp2_with (gi_at_make; refine wpListIn_make_own _ rfl _ _ 24 rfl w.heap.size 3 i0 (.int .i64 0) 1 Tryd.underlying24 hi hz0 hz1 .i64 .i64 c c rfl rfl rfl (by rw [hz2]; omega) (by unfold maxLen; omega) (by simp) ?_; intro w2 hown hgrow)
  have bO := Boxed.new w2 24 (.slice (some ⟨w.heap.size, 0, none⟩) 0 c)
  have hB1 : Below w.heap.size w w2 := (Below.refl w.heap.size w).grown hgrow (Nat.le_refl _) (fun k e => by cases e)
  have hB2 : Below w.heap.size w (w2.alloc (.cells #[.slice (some ⟨w.heap.size, 0, none⟩) 0 c] 24)) := hB1.alloc hB1.size _
  have hsz := hB1.size
  have HB1 := Lib.hid hB1
  refine each_loop s HS.out rfl B
    (fun pre W => (∃ v, Boxed W w2.heap.size 24 v ∧ W.ownsRow w.heap.size 3 1 v pre.length (lstN pre) ∧ True) ∧ Below w.heap.size w W)
    (OwnFrom.and (Own.from (holdsRow_own w.heap.size w2.heap.size 24 3 1 (fun (pre : List Nat) => pre.length) lstN (fun _ _ => True)) _) (ownFrom_below (Nat.le_refl _) (by simp; omega)))
    (fun pre W h => ht.on (h.2.mono hB0))
    ⟨⟨_, bO, (by simpa [lstN] using hown.alloc _), trivial⟩, hB2⟩
    (fun x => { tmps := #[.int .u64 s, undef, .slice none 0 0, .pointer (some ⟨w2.heap.size, 0, none⟩), .int .i64 (x : Nat), .int .u64 s, .int .i64 c, .slice (some ⟨w.heap.size, 0, none⟩) 0 c, .int .u64 s,
      .func (.func 64) #[.int .u64 s] #[], .int .i64 (x : Nat), undef, undef, undef, undef, undef], defers := [] }) ?assign ?body ?done
  case assign =>
    intro l x W K hK
    gi_wp2
    exact hK
  case body =>
    rintro l pre x W hx hpl ⟨⟨v, hv, hrow, -⟩, hB⟩
    have hcl := hv.cell
    gi_wp2_with (gi_at_builtin; refine wpListIn_append_own _ rfl _ _ 24 rfl w.heap.size 3 i0 (.int .i64 0) 1 8 Tryd.underlying24 hi hz0 hz1 hz2 rfl (by decide) _ _ _ rfl (hrow.alloc _) ⟨W.heap.size, 0, none⟩ 1 1 [.int .i64 (x : Nat)] rfl rfl (cell_one_new _ _ _) (by simp [Value.oneCell']) (by unfold maxLen; omega) (by omega) (by have := hB.size; simp; omega) ?_; intro v' w3 hown' hgrow' _; obtain ⟨g', cap', rfl⟩ := ownsRow_succ hown'; obtain ⟨hv1, hv2, hr2, hk2, hb2⟩ := hv.appended (by decide) hrow hB.size hsz hown' hgrow'; have hc1 := hv1.cell; have hf1 := hv1.frozen)
    exact ⟨rfl, hk2, ⟨_, hv2, by rw [lstN_snoc, List.length_append]; exact hr2, trivial⟩, hB.trans hb2⟩
  case done =>
    rintro D W hD ⟨⟨v, hv, hrow, -⟩, hB⟩ hK
    have hcl := hv.cell
    gi_wp2
    refine ⟨by simp, .inl ⟨_, _, rfl, run_takeDeferred hK, ?_⟩⟩
    exact ⟨_, results_tmp rfl _ _ _, v, rfl, ownsRow_putObj hrow _ hK rfl, hB.trans (belowK_b (w := w) (Nat.le_refl _) W D _ _ (by simp at hD; omega) hK rfl rfl)⟩
end Go.Proofs.YtehdneppleifdaaDoor

namespace Go.Proofs.YtehdneppleifdaaDoor
open Go.RowKit
attribute [local go_sem] Oper.semAt_some
set_option maxRecDepth 1000000
theorem iWithout (w : World) (s x : Nat) (hs : s < 16777216) (hx : x ≤ 23) :
    Calls Tryd.prog 41 #[.int .u64 s, .int .i64 x] w fun e w' => e = .returned (.int .u64 (woN s x : Nat)) ∧ w = w' := by
  have hp := pow_le24 (k := x) (by omega)
  have hw : IntKind.u64.wrap (2 ^ x) = ((2 ^ x : Nat) : Int) := by
    rw [pow_nat, IntKind.wrap_u64]
    generalize 2 ^ x = N at *
    omega
  have hb : bits .andNot .u64 (s : Int) ((2 ^ x : Nat) : Int) = ((woN s x : Nat) : Int) := bits_andNot s (2 ^ x) (by omega) (by omega)
  obtain ⟨r, hr⟩ : ∃ r, woN s x = r := ⟨_, rfl⟩
  rw [hr] at hb
  rw [hr]
  rw [← hw] at hb
  clear hr hw hp
  go_enter Tryd.func41, Tryd.ntmps41
  go_wp2
  go_ret
  exact ⟨rfl, rfl⟩
end Go.Proofs.YtehdneppleifdaaDoor
