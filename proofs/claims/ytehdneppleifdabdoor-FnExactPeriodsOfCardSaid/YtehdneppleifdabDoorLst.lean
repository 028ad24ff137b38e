/- The contract of the program's own list of the elements of a set. -/
import Derived.Test.YtehdneppleifdabDoorEachL
import Derived.Test.YtehdneppleifdabDoorLstN
namespace Go.Proofs.YtehdneppleifdabDoor
open Go.RowKit Go.Shelf
attribute [local go_sem] Oper.semAt_some
set_option maxRecDepth 1000000
set_option maxHeartbeats 2000000 in
theorem iList (w : World) (s : Nat) (hs : s < 16777216) (B : Nat) (hB0 : B ≤ w.heap.size) (ht : TabZ B w) :
    Calls Tryd.prog 27 #[.int .u64 s] w fun e w' => ∃ v, e = .returned v ∧ w'.ownsRow w.heap.size 3 1 v (bitsN s).length (lstN (bitsN s)) ∧ Below w.heap.size w w' := by
  obtain ⟨i0, hi, hz0, hz1, hz2⟩ := info_parts intInfo
  refine (callsIn_wide (n := 4)).1 ?_
  refine callsIn_of_wp_marks Tryd.func27 rfl trivial ?_ rfl
  simp only [Tryd.ntmps27, List.size_toArray, List.length_cons, List.length_nil, Nat.reduceAdd, Nat.reduceSub, Array.replicate_succ, Array.replicate_zero, List.push_toArray, List.append_toArray, List.nil_append, List.cons_append]
  have hcl := bits_le s
  obtain ⟨c, hc⟩ : ∃ c, Hid ((bitsN s).length = c) := ⟨_, Lib.hid rfl⟩
  have HS := Lib.hid hs
  have hc24 : c ≤ 24 := by rw [← hc.out]; exact hcl
  gi_wp2
  refine ⟨trivial, ?_⟩
  refine (callsIn_wide.2 (iCnt _ s HS.out)).mono ?_
  rw [hc.out]
  rintro e w1 ⟨rfl, rfl⟩
  gi_wp2_with (gi_at_make; refine wpListIn_make_own _ rfl _ _ 22 rfl w.heap.size 3 i0 (.int .i64 0) 1 Tryd.underlying22 hi hz0 hz1 .i64 .i64 c c rfl rfl rfl (by rw [hz2]; omega) (by unfold maxLen; omega) (by simp) ?_; intro w2 hown hgrow)
  have bO := Boxed.new w2 22 (.slice (some ⟨w.heap.size, 0, none⟩) 0 c)
  have hB1 : Below w.heap.size w w2 := (Below.refl w.heap.size w).grown hgrow (Nat.le_refl _) (fun k e => by cases e)
  have hB2 : Below w.heap.size w (w2.alloc (.cells #[.slice (some ⟨w.heap.size, 0, none⟩) 0 c] 22)) := hB1.alloc hB1.size _
  have hsz := hB1.size
  have HB1 := Lib.hid hB1
  refine each_loop s HS.out rfl B
    (fun pre W => (∃ v, Boxed W w2.heap.size 22 v ∧ W.ownsRow w.heap.size 3 1 v pre.length (lstN pre) ∧ True) ∧ Below w.heap.size w W)
    (OwnFrom.and (Own.from (holdsRow_own w.heap.size w2.heap.size 22 3 1 (fun (pre : List Nat) => pre.length) lstN (fun _ _ => True)) _) (ownFrom_below (Nat.le_refl _) (by simp; omega)))
    (fun pre W h => ht.on (h.2.mono hB0))
    ⟨⟨_, bO, (by simpa [lstN] using hown.alloc _), trivial⟩, hB2⟩
    (fun x => { tmps := #[.int .u64 s, undef, .slice none 0 0, .pointer (some ⟨w2.heap.size, 0, none⟩), .int .i64 (x : Nat), .int .u64 s, .int .i64 c, .slice (some ⟨w.heap.size, 0, none⟩) 0 c, .int .u64 s,
      .func (.func 40) #[.int .u64 s] #[], .int .i64 (x : Nat), undef, undef, undef, undef, undef], defers := [] }) ?assign ?body ?done
  case assign =>
    intro l x W K hK
    gi_wp2
    exact hK
  case body =>
    rintro l pre x W hx hpl ⟨⟨v, hv, hrow, -⟩, hB⟩
    have hcl := hv.cell
    gi_wp2_with (gi_at_builtin; refine wpListIn_append_own _ rfl _ _ 22 rfl w.heap.size 3 i0 (.int .i64 0) 1 8 Tryd.underlying22 hi hz0 hz1 hz2 rfl (by decide) _ _ _ rfl (hrow.alloc _) ⟨W.heap.size, 0, none⟩ 1 1 [.int .i64 (x : Nat)] rfl rfl (cell_one_new _ _ _) (by simp [Value.oneCell']) (by unfold maxLen; omega) (by omega) (by have := hB.size; simp; omega) ?_; intro v' w3 hown' hgrow' _; obtain ⟨g', cap', rfl⟩ := ownsRow_succ hown'; obtain ⟨hv1, hv2, hr2, hk2, hb2⟩ := hv.appended (by decide) hrow hB.size hsz hown' hgrow'; have hc1 := hv1.cell; have hf1 := hv1.frozen)
    exact ⟨rfl, hk2, ⟨_, hv2, by rw [lstN_snoc, List.length_append]; exact hr2, trivial⟩, hB.trans hb2⟩
  case done =>
    rintro D W hD ⟨⟨v, hv, hrow, -⟩, hB⟩ hK
    have hcl := hv.cell
    gi_wp2
    refine ⟨by simp, .inl ⟨_, _, rfl, run_takeDeferred hK, ?_⟩⟩
    exact ⟨_, results_tmp rfl _ _ _, v, rfl, ownsRow_putObj hrow _ hK rfl, hB.trans (belowK_b (w := w) (Nat.le_refl _) W D _ _ (by simp at hD; omega) hK rfl rfl)⟩
end Go.Proofs.YtehdneppleifdabDoor
