/- The walk of the law on ParseGroup: at every text it answers true. -/
import Derived.Test.YthoiabdndaoflabDoorGrpMarkD
namespace Go.Proofs.YthoiabdndaoflabDoor
open Go.RowKit
set_option maxRecDepth 1000000
theorem markGroupAny (w : World) (B : Nat) (a : Option Addr) (l : List Int) (n cap : Nat) (k : Int) (kn : Nat) (hk : k = (kn : Int)) (hn : n = l.length) (hl : n ≤ 1048576) (hkn : kn ≤ 1048576)
    (ho : w.ownsRow B 3 1 (.slice a n cap) n (l.map (Value.int .i64))) :
    Calls Tryd.prog 18 #[.agg #[.slice a n cap], .int .i64 k] w fun e w' => e = .returned (.int .i64 ((kn + n : Nat) : Int)) ∧ w'.ownsRow B 3 1 (.slice a n cap) n ((upI kn n).map (Value.int .i64)) ∧ w.grownBy w' (Value.slice a n cap).ownBlock := by
  have HO := Lib.hid (owns_below ho (Joins.below_alloc1 w (.cells #[.slice a n cap] 27)))
  have HN := Lib.hid hn
  have HK := Lib.hid hk
  clear ho hn hk
  go_enter Tryd.func18, Tryd.ntmps18
  go_wp2_with (go_at_call 36; refine (markRow _ _ _ _ _ _ _ kn HK.out HN.out hl hkn HO.out).mono ?_; rintro e w1 ⟨rfl, ho1, hg1⟩)
  go_ret
  exact ⟨rfl, ho1, grownG_trans (World.grownBy_alloc w _ _) hg1⟩
theorem heldGroupAny (w : World) (a : Option Addr) (n cap : Nat) (k : Int) (kn : Nat) (hk : k = (kn : Int)) (hl : n ≤ 1048576) (hkn : kn ≤ 1048576) (hi : Ints w a (upI kn n)) :
    Calls Tryd.prog 19 #[.agg #[.slice a n cap], .int .i64 k] w fun e w' => e = .returned (.int .i64 ((kn + n : Nat) : Int)) ∧ Below w.heap.size w w' := by
  have HI := Lib.hid (ints_alloc hi (.cells #[.slice a n cap] 27))
  have HK := Lib.hid hk
  clear hi hk
  go_enter Tryd.func19, Tryd.ntmps19
  go_wp2_with (go_at_call 37; refine (heldInts_any _ _ _ _ _ kn HK.out hl hkn HI.out).mono ?_; rintro e w1 ⟨rfl, hb1⟩)
  go_ret
  exact ⟨rfl, (Joins.below_alloc1 _ _).trans (hb1.mono (by simp))⟩
theorem spec_few (s : List UInt8) : ((specR s).getD []).length ≤ 1048576 := by
  rw [← both_read]
  unfold implR
  split
  · simp
  · split
    · split
      · next h => have := (grpB_true h).1; simp only [Option.getD_some]; omega
      · simp
    · simp
set_option maxHeartbeats 4000000 in
theorem walkParseGroup (s : ByteArray) (hs : s.size ≤ maxLen) (m : Int) (w : World) (hv : w.cell? ⟨2, 0, none⟩ = some (.int .i64 m)) (ht : TabOn w.heap.size w) :
    Calls Tryd.prog 6 #[.string s] w fun e w' => e = .returned (.bool true) ∧ Below w.heap.size w w' := by
  have hm := hs
  unfold maxLen at hm
  have HT := Lib.hid ht
  clear ht hs
  have hll := spec_few s.data.toList
  by_cases hbig : s.size ≤ 1048576
  · have hlen : ¬ (1048576 : Int) < (s.size : Int) := by omega
    have HS := Lib.hid (sParG s w hbig)
    unfold ParsePost at HS
    have HI : Hid (∀ W : World, W.cell? ⟨2, 0, none⟩ = some (.int .i64 m) → TabOn W.heap.size W → Calls Tryd.prog 17 #[.string s] W fun e w' => ∃ u, e = .returned (.tuple #[.agg #[u], .bool (specR s.data.toList).isSome]) ∧ w'.ownsRow W.heap.size 3 1 u ((specR s.data.toList).getD []).length (((specR s.data.toList).getD []).map (Value.int .i64)) ∧ Below W.heap.size W w') := Lib.hid (fun W h1 h2 => by
      have := iParG s m W hbig h1 h2
      rw [both_read] at this
      exact this)
    generalize (specR s.data.toList).isSome = ok at *
    go_enter Tryd.func6, Tryd.ntmps6
    go_wp2_with (first
      | (go_at_call 19; have hx_ := T7; clear hx_; go_loud (refine (heldGroupAny _ _ _ _ _ 1 rfl hll (by decide) (own_ints (l := upI 1 ((specR s.data.toList).getD []).length) (by rw [upI_len]; exact Q7.out))).mono ?_); rintro e w8 ⟨rfl, hb8⟩; go_loud (have T8 := Lib.hid (T7.out.trans (hb8.mono T7.out.size))))
      | (go_at_call 11; have hx_ := T6; clear hx_; go_loud (refine (eqGroup_same _ _ _ ((specR s.data.toList).getD []) _ _ _ rfl hll (own_ints P6.out) (own_ints R6.out)).mono ?_); rintro e w7 ⟨rfl, hb7⟩; go_loud (have T7 := Lib.hid (T6.out.trans (hb7.mono T6.out.size)); have Q7 := Lib.hid (owns_below Q6.out hb7); have d7 := keepD hb7 d6))
      | (go_at_call 17; have hx_ := T5; clear hx_; go_loud (refine ((HI.out _ hv5 (HT.out.on T5.out |>.up T5.out.size))).mono ?_); rintro e w6 ⟨v6, rfl, ho6, hb6⟩; go_loud (obtain ⟨a6, cap6, rfl⟩ := own_slice ho6; have T6 := Lib.hid ((T5.out.trans (hb6.mono T5.out.size)).alloc (Nat.le_trans T5.out.size hb6.size) (.cells #[(.slice a6 ((specR s.data.toList).getD []).length cap6)] 27)); have R6 := Lib.hid (owns_below (owns_below R5.out hb6) (Joins.below_alloc1 w6 (.cells #[(.slice a6 ((specR s.data.toList).getD []).length cap6)] 27))); have Q6 := Lib.hid (owns_below (owns_below Q5.out hb6) (Joins.below_alloc1 w6 (.cells #[(.slice a6 ((specR s.data.toList).getD []).length cap6)] 27))); have P6 := Lib.hid (owns_below ho6 (Joins.below_alloc1 w6 (.cells #[(.slice a6 ((specR s.data.toList).getD []).length cap6)] 27))); have c6 := keepD (Joins.below_alloc1 w6 (.cells #[(.slice a6 ((specR s.data.toList).getD []).length cap6)] 27)) (keepD hb6 c5); have d6 := keepD (Joins.below_alloc1 w6 (.cells #[(.slice a6 ((specR s.data.toList).getD []).length cap6)] 27)) (keepD hb6 d5); have e6 := newC w6 (.slice a6 ((specR s.data.toList).getD []).length cap6) 27 (n := w6.heap.size) rfl))
      | (go_at_call 19; have hx_ := T4; clear hx_; go_loud (refine (heldGroupAny _ _ _ _ _ 1 rfl hll (by decide) (own_ints (l := upI 1 ((specR s.data.toList).getD []).length) (by rw [upI_len]; exact Q4.out))).mono ?_); rintro e w5 ⟨rfl, hb5⟩; go_loud (have T5 := Lib.hid (T4.out.trans (hb5.mono T4.out.size)); have R5 := Lib.hid (owns_below R4.out hb5); have Q5 := Lib.hid (owns_below Q4.out hb5); have c5 := keepD hb5 c4; have d5 := keepD hb5 d4; have hv5 := keepD hb5 hv4))
      | (go_at_call 18; have hx_ := T3; clear hx_; go_loud (refine (markGroupAny _ _ _ ((specR s.data.toList).getD []) _ _ _ 1 rfl rfl hll (by decide) Q3.out).mono ?_); rintro e w4 ⟨rfl, ho4, hg4⟩; go_loud (have NR := Lib.hid (ne_blocks (N := w1.heap.size) (fun k hk => (X1.out k hk).2) (fun k hk => Nat.le_trans (by simp) (X2.out k hk).1)); have R4 := Lib.hid (R3.out.kept hg4 NR.out); have Q4 := Lib.hid ho4; have T4 := Lib.hid (T3.out.grown hg4 T3.out.size (fun k hk => Nat.le_trans T1.out.size (X2.out k hk).1)); have c4 := hg4.cell c3 (fun e => by have := (X2.out _ e.symm).1; simp at this <;> omega); have d4 := hg4.cell d3 (fun e => by have := (X2.out _ e.symm).2; simp at this <;> omega); have hv4 := hg4.cell hv3 (fun e => by have h1 := (X2.out _ e.symm).1; have h2 := T1.out.size; have h3 := World.block_lt_of_cell? w _ hv; simp at h1 h2 h3 <;> omega)))
      | (go_at_call 11; have hx_ := T2; clear hx_; go_loud (refine (eqGroup_same _ _ _ ((specR s.data.toList).getD []) _ _ _ rfl hll (own_ints Q2.out) (own_ints R2.out)).mono ?_); rintro e w3 ⟨rfl, hb3⟩; go_loud (have T3 := Lib.hid (T2.out.trans (hb3.mono T2.out.size)); have R3 := Lib.hid (owns_below R2.out hb3); have Q3 := Lib.hid (owns_below Q2.out hb3); have c3 := keepD hb3 c2; have d3 := keepD hb3 d2; have hv3 := keepD hb3 hv2))
      | (go_at_call 17; have hx_ := T1; clear hx_; go_loud (refine ((HI.out _ hv1 (HT.out.on T1.out |>.up T1.out.size))).mono ?_); rintro e w2 ⟨v2, rfl, ho2, hb2⟩; go_loud (obtain ⟨a2, cap2, rfl⟩ := own_slice ho2; have X2 := Lib.hid (ho2.lt); have T2 := Lib.hid ((T1.out.trans (hb2.mono T1.out.size)).alloc (Nat.le_trans T1.out.size hb2.size) (.cells #[(.slice a2 ((specR s.data.toList).getD []).length cap2)] 27)); have R2 := Lib.hid (owns_below (owns_below R1.out hb2) (Joins.below_alloc1 w2 (.cells #[(.slice a2 ((specR s.data.toList).getD []).length cap2)] 27))); have Q2 := Lib.hid (owns_below ho2 (Joins.below_alloc1 w2 (.cells #[(.slice a2 ((specR s.data.toList).getD []).length cap2)] 27))); have c2 := keepD (Joins.below_alloc1 w2 (.cells #[(.slice a2 ((specR s.data.toList).getD []).length cap2)] 27)) (keepD hb2 c1); have d2 := newC w2 (.slice a2 ((specR s.data.toList).getD []).length cap2) 27 (n := w2.heap.size) rfl; have hv2 := keepD (Joins.below_alloc1 w2 (.cells #[(.slice a2 ((specR s.data.toList).getD []).length cap2)] 27)) (keepD hb2 hv1); have Z2 := Lib.hid hb2.size))
      | (go_at_call 16; go_loud (refine (HS.out).mono ?_); rintro e w1 ⟨v1, rfl, ho1, hb1⟩; go_loud (obtain ⟨a1, cap1, rfl⟩ := own_slice ho1; have X1 := Lib.hid (ho1.lt); have T1 := Lib.hid (hb1.alloc hb1.size (.cells #[(.slice a1 ((specR s.data.toList).getD []).length cap1)] 27)); have R1 := Lib.hid (owns_below ho1 (Joins.below_alloc1 w1 (.cells #[(.slice a1 ((specR s.data.toList).getD []).length cap1)] 27))); have c1 := newC w1 (.slice a1 ((specR s.data.toList).getD []).length cap1) 27 (n := w1.heap.size) rfl; have hv1 := keepD T1.out hv)))
    go_ret
    exact ⟨rfl, T8.out⟩
  · have hlen : (1048576 : Int) < (s.size : Int) := by omega
    go_enter Tryd.func6, Tryd.ntmps6
    go_wp2
    go_ret
    exact ⟨rfl, Below.refl _ _⟩
end Go.Proofs.YthoiabdndaoflabDoor
