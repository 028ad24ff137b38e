/- The program's own counts of a coefficient: the set and the character, the counts over the set. -/
import Derived.Test.YthlpjiibjlaebaaGreatDoorChaK
import Derived.Test.YthlpjiibjlaebaaGreatDoorMGAN
import Derived.OwnWalkIn
namespace Go.Proofs.YthlpjiibjlaebaaGreatDoor
open Go.RowKit Go.Shelf
attribute [local go_sem] Oper.semAt_some
set_option maxRecDepth 1000000
set_option maxHeartbeats 2000000 in
theorem iSAC_no (w : World) (a : Option Addr) (l : List Int) (n cap : Nat) (s k : Int) (hn : n = l.length) (hm : n ≤ 9223372036854775807) (hi : Ints w a l) (hb : ccB l s k = false) :
    Calls Tryz.prog 52 #[.agg #[.slice a n cap], .int .i64 s, .int .i64 k] w fun e w' => e = .returned (.tuple #[.int .u64 0, .agg #[.int .i64 0, .nilFunc], .bool false]) ∧ Below w.heap.size w w' := by
  have HI := Lib.hid (ints_alloc (ints_alloc hi (.cells #[.slice a n cap] 26)) (.cells #[.int .i64 0, .nilFunc] 49))
  have HN := Lib.hid hn
  have C1 := keepC (Joins.below_alloc1 _ (.cells #[.int .i64 0, .nilFunc] 49)) (by simp) (newC w (.slice a n cap) 26 (n := w.heap.size) rfl)
  have HB := Lib.hid (Joins.below_alloc2 w (.cells #[.slice a n cap] 26) (.cells #[.int .i64 0, .nilFunc] 49))
  have R1 : Hid (((w.alloc (.cells #[.slice a n cap] 26)).alloc (.cells #[.int .i64 0, .nilFunc] 49)).heap[w.heap.size + 1]? = some (.cells #[.int .i64 0, .nilFunc] 49 (0, 0))) := Lib.hid (by simpa using heap_alloc_new (w.alloc (.cells #[.slice a n cap] 26)) (.cells #[.int .i64 0, .nilFunc] 49))
  have T0 := Lib.hid (Below.refl ((w.alloc (.cells #[.slice a n cap] 26)).alloc (.cells #[.int .i64 0, .nilFunc] 49)).heap.size ((w.alloc (.cells #[.slice a n cap] 26)).alloc (.cells #[.int .i64 0, .nilFunc] 49)))
  clear hi hn
  cases hs : isS l s with
  | false =>
    have HS := Lib.hid hs
    cases hk : isE l k with
    | false =>
      have HK := Lib.hid hk
      clear hs hk hb
      go_enter Tryz.func52, Tryz.ntmps52
      go_wp2_with (first
        | (go_at_call 38; have hx_ := T1; clear hx_; refine (iCIn_no _ _ _ _ _ k HN.out hm (HI.out.below rfl T1.out) HK.out).mono ?_; rintro e w2 ⟨rfl, hb2⟩; have T2 := Lib.hid (((T1.out.trans (hb2.mono T1.out.size)).alloc (Nat.le_trans T1.out.size hb2.size) (.cells #[.int .i64 0, .int .i64 0, .int .i64 0] 46)).alloc (by have h1 := T1.out.size; have h2 := hb2.size; simp at *; omega) (.cells #[.int .i64 0, .nilFunc] 49)); obtain ⟨y0, y1, y2, y3⟩ := two_cell (keepH T2.out (by simp <;> omega) R1.out); clear hb2)
        | (go_at_call 46; refine (iSetIn_no _ _ _ _ _ _ HN.out hm (HI.out.below rfl T0.out) HS.out).mono ?_; rintro e w1 ⟨rfl, hb1⟩; have T1 := Lib.hid ((T0.out.trans (hb1.mono T0.out.size)).alloc (Nat.le_trans T0.out.size hb1.size) (.cells #[.int .i64 0, .int .i64 0, .int .i64 0] 46)); have c1 := keepC T1.out (by simp <;> omega) C1; clear hb1))
      refine bodyPost_ret (v := .tuple #[.int .u64 0, .agg #[.int .i64 0, .nilFunc], .bool false]) (by simp [results, Tryz.results52, go_sem, y0, y1]) rfl ⟨rfl, below_set2 (HB.out.trans (T2.out.mono (by simp <;> omega))) (by omega)⟩
    | true =>
      have HK := Lib.hid hk
      obtain ⟨E, EE⟩ : ∃ E, Hid (expN l = E) := ⟨_, Lib.hid rfl⟩
      obtain ⟨p, EP⟩ : ∃ p, Hid (l.getD 0 1 = p) := ⟨_, Lib.hid rfl⟩
      obtain ⟨q, EQ⟩ : ∃ q, Hid (l.getD 1 1 = q) := ⟨_, Lib.hid rfl⟩
      obtain ⟨r, ER⟩ : ∃ r, Hid (l.getD 2 1 = r) := ⟨_, Lib.hid rfl⟩
      clear hs hk hb
      go_enter Tryz.func52, Tryz.ntmps52
      go_wp2_with (first
        | (go_at_call 38; have hx_ := T1; clear hx_; refine (iCIn_yes _ _ _ _ _ k HN.out hm (HI.out.below rfl T1.out) HK.out).mono ?_; rw [EP.out, EQ.out, ER.out, EE.out]; simp only [chrF]; rintro e w2 ⟨a1, a2, a3, rfl, hc2, hle2, hb2⟩; have HL2 := Lib.hid hle2; have HS1 := Lib.hid T1.out.size; have HC2 := Lib.hid (hc2.below (Joins.below_alloc2 w2 (.cells #[.int .i64 p, .int .i64 q, .int .i64 r] 46) (.cells #[.int .i64 E, .func (.func 90) #[] #[.pointer (some ⟨a1, 0, none⟩), .pointer (some ⟨a2, 0, none⟩), .pointer (some ⟨a3, 0, none⟩)]] 49))); have T2 := Lib.hid (((T1.out.trans (hb2.mono T1.out.size)).alloc (Nat.le_trans T1.out.size hb2.size) (.cells #[.int .i64 p, .int .i64 q, .int .i64 r] 46)).alloc (by have h1 := T1.out.size; have h2 := hb2.size; simp at *; omega) (.cells #[.int .i64 E, .func (.func 90) #[] #[.pointer (some ⟨a1, 0, none⟩), .pointer (some ⟨a2, 0, none⟩), .pointer (some ⟨a3, 0, none⟩)]] 49)); have HQ := Lib.hid (show ((w2.alloc (.cells #[.int .i64 p, .int .i64 q, .int .i64 r] 46)).alloc (.cells #[.int .i64 E, .func (.func 90) #[] #[.pointer (some ⟨a1, 0, none⟩), .pointer (some ⟨a2, 0, none⟩), .pointer (some ⟨a3, 0, none⟩)]] 49)).heap[w2.heap.size + 1]? = some (.cells #[.int .i64 E, .func (.func 90) #[] #[.pointer (some ⟨a1, 0, none⟩), .pointer (some ⟨a2, 0, none⟩), .pointer (some ⟨a3, 0, none⟩)]] 49 (0, 0)) by simpa using heap_alloc_new (w2.alloc (.cells #[.int .i64 p, .int .i64 q, .int .i64 r] 46)) (.cells #[.int .i64 E, .func (.func 90) #[] #[.pointer (some ⟨a1, 0, none⟩), .pointer (some ⟨a2, 0, none⟩), .pointer (some ⟨a3, 0, none⟩)]] 49)); obtain ⟨v0, v1, _, _⟩ := two_cell HQ.out; obtain ⟨y0, y1, y2, y3⟩ := two_cell (keepH T2.out (by simp <;> omega) R1.out); clear hc2 hb2 hle2)
        | (go_at_call 46; refine (iSetIn_no _ _ _ _ _ _ HN.out hm (HI.out.below rfl T0.out) HS.out).mono ?_; rintro e w1 ⟨rfl, hb1⟩; have T1 := Lib.hid ((T0.out.trans (hb1.mono T0.out.size)).alloc (Nat.le_trans T0.out.size hb1.size) (.cells #[.int .i64 0, .int .i64 0, .int .i64 0] 46)); have c1 := keepC T1.out (by simp <;> omega) C1; clear hb1))
      refine bodyPost_ret (v := .tuple #[.int .u64 0, .agg #[.int .i64 0, .nilFunc], .bool false]) (by simp [results, Tryz.results52, go_sem, y0, y1]) rfl ⟨rfl, below_set2 (HB.out.trans (T2.out.mono (by simp <;> omega))) (by omega)⟩
  | true =>
    have HS := Lib.hid hs
    have hk : isE l k = false := by unfold ccB at hb; rw [hs] at hb; simpa using hb
    have HK := Lib.hid hk
    obtain ⟨hg, s, rfl, hsn, hs24⟩ := isS_true hs
    obtain ⟨E, EE⟩ : ∃ E, Hid (expN l = E) := ⟨_, Lib.hid rfl⟩
    obtain ⟨p, EP⟩ : ∃ p, Hid (l.getD 0 1 = p) := ⟨_, Lib.hid rfl⟩
    obtain ⟨q, EQ⟩ : ∃ q, Hid (l.getD 1 1 = q) := ⟨_, Lib.hid rfl⟩
    obtain ⟨r, ER⟩ : ∃ r, Hid (l.getD 2 1 = r) := ⟨_, Lib.hid rfl⟩
    clear hs hk hb hsn hg
    go_enter Tryz.func52, Tryz.ntmps52
    go_wp2_with (first
      | (go_at_call 38; have hx_ := T1; clear hx_; refine (iCIn_no _ _ _ _ _ k HN.out hm (HI.out.below rfl T1.out) HK.out).mono ?_; rintro e w2 ⟨rfl, hb2⟩; have T2 := Lib.hid (((T1.out.trans (hb2.mono T1.out.size)).alloc (Nat.le_trans T1.out.size hb2.size) (.cells #[.int .i64 0, .int .i64 0, .int .i64 0] 46)).alloc (by have h1 := T1.out.size; have h2 := hb2.size; simp at *; omega) (.cells #[.int .i64 0, .nilFunc] 49)); obtain ⟨y0, y1, y2, y3⟩ := two_cell (keepH T2.out (by simp <;> omega) R1.out); clear hb2)
      | (go_at_call 46; refine (iSetIn_yes _ _ _ _ _ _ HN.out hm (HI.out.below rfl T0.out) HS.out).mono ?_; rw [EP.out, EQ.out, ER.out]; rintro e w1 ⟨rfl, hb1⟩; have T1 := Lib.hid ((T0.out.trans (hb1.mono T0.out.size)).alloc (Nat.le_trans T0.out.size hb1.size) (.cells #[.int .i64 p, .int .i64 q, .int .i64 r] 46)); have c1 := keepC T1.out (by simp <;> omega) C1; clear hb1))
    refine bodyPost_ret (v := .tuple #[.int .u64 0, .agg #[.int .i64 0, .nilFunc], .bool false]) (by simp [results, Tryz.results52, go_sem, y0, y1]) rfl ⟨rfl, below_set2 (HB.out.trans (T2.out.mono (by simp <;> omega))) (by omega)⟩
set_option maxHeartbeats 2000000 in
theorem iSAC_yes (w : World) (a : Option Addr) (l : List Int) (n cap : Nat) (s : Nat) (k : Int) (hn : n = l.length) (hm : n ≤ 9223372036854775807) (hi : Ints w a l) (hb : ccB l (s : Int) k = true) :
    Calls Tryz.prog 52 #[.agg #[.slice a n cap], .int .i64 s, .int .i64 k] w fun e w' => ∃ bo bp be, e = .returned (.tuple #[.int .u64 s, .agg #[.int .i64 (expN l), chrF bo bp be], .bool true]) ∧ ChrAt w' l k bo bp be ∧ Below w.heap.size w w' := by
  have HI := Lib.hid (ints_alloc (ints_alloc hi (.cells #[.slice a n cap] 26)) (.cells #[.int .i64 0, .nilFunc] 49))
  have HN := Lib.hid hn
  have C1 := keepC (Joins.below_alloc1 _ (.cells #[.int .i64 0, .nilFunc] 49)) (by simp) (newC w (.slice a n cap) 26 (n := w.heap.size) rfl)
  have HB := Lib.hid (Joins.below_alloc2 w (.cells #[.slice a n cap] 26) (.cells #[.int .i64 0, .nilFunc] 49))
  have R1 : Hid (((w.alloc (.cells #[.slice a n cap] 26)).alloc (.cells #[.int .i64 0, .nilFunc] 49)).heap[w.heap.size + 1]? = some (.cells #[.int .i64 0, .nilFunc] 49 (0, 0))) := Lib.hid (by simpa using heap_alloc_new (w.alloc (.cells #[.slice a n cap] 26)) (.cells #[.int .i64 0, .nilFunc] 49))
  have T0 := Lib.hid (Below.refl ((w.alloc (.cells #[.slice a n cap] 26)).alloc (.cells #[.int .i64 0, .nilFunc] 49)).heap.size ((w.alloc (.cells #[.slice a n cap] 26)).alloc (.cells #[.int .i64 0, .nilFunc] 49)))
  clear hi hn
  have hs : isS l (s : Int) = true := by unfold ccB at hb; exact (Bool.and_eq_true_iff.1 hb).1
  have hk : isE l k = true := by unfold ccB at hb; exact (Bool.and_eq_true_iff.1 hb).2
  have HS := Lib.hid hs
  have HK := Lib.hid hk
  obtain ⟨E, EE⟩ : ∃ E, Hid (expN l = E) := ⟨_, Lib.hid rfl⟩
  obtain ⟨p, EP⟩ : ∃ p, Hid (l.getD 0 1 = p) := ⟨_, Lib.hid rfl⟩
  obtain ⟨q, EQ⟩ : ∃ q, Hid (l.getD 1 1 = q) := ⟨_, Lib.hid rfl⟩
  obtain ⟨r, ER⟩ : ∃ r, Hid (l.getD 2 1 = r) := ⟨_, Lib.hid rfl⟩
  rw [EE.out]
  clear hs hk hb
  go_enter Tryz.func52, Tryz.ntmps52
  go_wp2_with (first
    | (go_at_call 38; have hx_ := T1; clear hx_; refine (iCIn_yes _ _ _ _ _ k HN.out hm (HI.out.below rfl T1.out) HK.out).mono ?_; rw [EP.out, EQ.out, ER.out, EE.out]; simp only [chrF]; rintro e w2 ⟨a1, a2, a3, rfl, hc2, hle2, hb2⟩; have HL2 := Lib.hid hle2; have HS1 := Lib.hid T1.out.size; have HC2 := Lib.hid (hc2.below (Joins.below_alloc2 w2 (.cells #[.int .i64 p, .int .i64 q, .int .i64 r] 46) (.cells #[.int .i64 E, .func (.func 90) #[] #[.pointer (some ⟨a1, 0, none⟩), .pointer (some ⟨a2, 0, none⟩), .pointer (some ⟨a3, 0, none⟩)]] 49))); have T2 := Lib.hid (((T1.out.trans (hb2.mono T1.out.size)).alloc (Nat.le_trans T1.out.size hb2.size) (.cells #[.int .i64 p, .int .i64 q, .int .i64 r] 46)).alloc (by have h1 := T1.out.size; have h2 := hb2.size; simp at *; omega) (.cells #[.int .i64 E, .func (.func 90) #[] #[.pointer (some ⟨a1, 0, none⟩), .pointer (some ⟨a2, 0, none⟩), .pointer (some ⟨a3, 0, none⟩)]] 49)); have HQ := Lib.hid (show ((w2.alloc (.cells #[.int .i64 p, .int .i64 q, .int .i64 r] 46)).alloc (.cells #[.int .i64 E, .func (.func 90) #[] #[.pointer (some ⟨a1, 0, none⟩), .pointer (some ⟨a2, 0, none⟩), .pointer (some ⟨a3, 0, none⟩)]] 49)).heap[w2.heap.size + 1]? = some (.cells #[.int .i64 E, .func (.func 90) #[] #[.pointer (some ⟨a1, 0, none⟩), .pointer (some ⟨a2, 0, none⟩), .pointer (some ⟨a3, 0, none⟩)]] 49 (0, 0)) by simpa using heap_alloc_new (w2.alloc (.cells #[.int .i64 p, .int .i64 q, .int .i64 r] 46)) (.cells #[.int .i64 E, .func (.func 90) #[] #[.pointer (some ⟨a1, 0, none⟩), .pointer (some ⟨a2, 0, none⟩), .pointer (some ⟨a3, 0, none⟩)]] 49)); obtain ⟨v0, v1, _, _⟩ := two_cell HQ.out; obtain ⟨y0, y1, y2, y3⟩ := two_cell (keepH T2.out (by simp <;> omega) R1.out); clear hc2 hb2 hle2)
    | (go_at_call 46; refine (iSetIn_yes _ _ _ _ _ _ HN.out hm (HI.out.below rfl T0.out) HS.out).mono ?_; rw [EP.out, EQ.out, ER.out]; rintro e w1 ⟨rfl, hb1⟩; have T1 := Lib.hid ((T0.out.trans (hb1.mono T0.out.size)).alloc (Nat.le_trans T0.out.size hb1.size) (.cells #[.int .i64 p, .int .i64 q, .int .i64 r] 46)); have c1 := keepC T1.out (by simp <;> omega) C1; clear hb1))
  have hs1 : w.heap.size + 2 ≤ a1 ∧ w.heap.size + 2 ≤ a2 ∧ w.heap.size + 2 ≤ a3 := by
    have h1 := HL2.out
    have h2 := HS1.out
    simp only [World.size_alloc] at h1 h2
    omega
  have HCD := Lib.hid (HC2.out.below (Below.refl _ _).drew)

  go_region
  go_wp2
  have hX := grownG_set (grownG_set (World.grownBy.refl ((w2.alloc (.cells #[.int .i64 p, .int .i64 q, .int .i64 r] 46)).alloc (.cells #[.int .i64 E, .func (.func 90) #[] #[.pointer (some ⟨a1, 0, none⟩), .pointer (some ⟨a2, 0, none⟩), .pointer (some ⟨a3, 0, none⟩)]] 49)).drew (some (w.heap.size + 1))) 0 (.int .i64 E)) 1 (.func (.func 90) #[] #[.pointer (some ⟨a1, 0, none⟩), .pointer (some ⟨a2, 0, none⟩), .pointer (some ⟨a3, 0, none⟩)])
  have hd := HCD.out.grown hX (by omega) (by omega) (by omega)
  refine bodyPost_ret (v := .tuple #[.int .u64 s, .agg #[.int .i64 E, chrF a1 a2 a3], .bool true]) (by simp [results, Tryz.results52, go_sem, y0, y1, chrF]) rfl ⟨a1, a2, a3, rfl, hd, below_set2 ((HB.out.trans (T2.out.mono (by simp <;> omega))).drew) (by omega)⟩
end Go.Proofs.YthlpjiibjlaebaaGreatDoor
