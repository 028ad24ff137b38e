/- The contracts of the program's own functions on groups: places of an element. -/
import Derived.Test.YticgoodmfjjggaaGreatDoorGrpExp
namespace Go.Proofs.YticgoodmfjjggaaGreatDoor
open Go.RowKit
set_option maxRecDepth 1000000
theorem intSz : (Tryz.prog.info? 3).map (·.size) = some 1 := by kernel_rfl
theorem own_heap {w : World} {B g n : Nat} {e : TypeId} {xs : List Value} (h : w.ownsRow B e 1 (.slice (some ⟨g, 0, none⟩) n n) n xs) : w.heap[g]? = some (.cells xs.toArray e (0, 0)) := by
  obtain ⟨h1, h2⟩ := h
  rcases h2 with ⟨h2, _⟩ | ⟨g', cap, cur, hv, hg, hh, hn, hm, hs, ht⟩
  · cases h2
  · cases hv
    rw [hh, ← ht, List.take_of_length_le (by rw [Array.length_toList, hs]; exact Nat.le_refl _)]
theorem heap_own {w : World} {B g n : Nat} {e : TypeId} {xs : List Value} (h : w.heap[g]? = some (.cells xs.toArray e (0, 0))) (hB : B ≤ g) (hn : n = xs.length) (hm : n ≤ maxLen) : w.ownsRow B e 1 (.slice (some ⟨g, 0, none⟩) n n) n xs :=
  ⟨by omega, .inr ⟨g, n, xs.toArray, rfl, hB, h, Nat.le_refl _, hm, by simp; omega, by simp [hn]⟩⟩
/-- The places are the first of three. -/
theorem plc_tri {l : List Int} (hl : l.length ≤ 3) (x : Int) (hp : 0 ≤ l.getD 0 1) :
    (List.range l.length).map (dig l x) = [x % l.getD 0 1, x / l.getD 0 1 % l.getD 1 1, x / l.getD 0 1 / l.getD 1 1 % l.getD 2 1].take l.length := by
  match l, hl with
  | [], _ => rfl
  | [a], _ => simp [List.range_succ, dig, PK, prodI]
  | [a, b], _ => simp [List.range_succ, dig, PK, prodI]
  | [a, b, c], _ =>
    have hp' : 0 ≤ a := hp
    simp [List.range_succ, dig, PK, prodI, Int.ediv_ediv_of_nonneg hp']
  | _ :: _ :: _ :: _ :: _, h => simp at h
set_option maxHeartbeats 1000000 in
theorem iPlaces' (w : World) (a : Option Addr) (l : List Int) (n cap : Nat) (x : Int) (hn : n = l.length) (hm : n ≤ 9223372036854775807) (hi : Ints w a l) :
    Calls Tryz.prog 17 #[.agg #[.slice a n cap], .int .i64 x] w fun e w' => ∃ v, e = .returned v ∧ w'.ownsRow w.heap.size 3 1 v (plc l x).length ((plc l x).map (Value.int .i64)) ∧ Below w.heap.size w w' := by
  obtain ⟨i0, hi0, hz0, hz1, hz2⟩ := info_parts intInfo
  have HI := Lib.hid (ints_alloc hi (.cells #[.slice a n cap] 26))
  have HN := Lib.hid hn
  have C1 := newC w (.slice a n cap) 26 (n := w.heap.size) rfl
  have HB := Lib.hid (Joins.below_alloc1 w (.cells #[.slice a n cap] 26))
  have T0 := Lib.hid (Below.refl (w.alloc (.cells #[.slice a n cap] 26)).heap.size (w.alloc (.cells #[.slice a n cap] 26)))
  clear hi hn
  cases hx : isE l x with
  | false =>
    have HX := Lib.hid hx
    rw [show plc l x = [] by unfold plc; rw [if_neg (by simp [hx])]]
    clear hx
    go_enter Tryz.func17, Tryz.ntmps17
    go_wp2_with (first
      | (go_at_call 66; refine (iIn _ _ _ _ _ x HN.out hm (HI.out.below rfl T0.out)).mono ?_; unfold InPost; rw [HX.out]; rintro e w1 ⟨p, q, r, u, v, s, rfl, hv1, hb1⟩; clear hv1; have T1 := Lib.hid (T0.out.trans (hb1.mono T0.out.size)); have T1a := Lib.hid (T1.out.alloc T1.out.size (.cells #[.int .i64 p, .int .i64 q, .int .i64 r] 58)); have T1b := Lib.hid (T1a.out.alloc T1a.out.size (.cells #[.int .i64 u, .int .i64 v, .int .i64 s] 58)); have N1 := Lib.hid (keepH (Joins.below_alloc1 _ (.cells #[.int .i64 u, .int .i64 v, .int .i64 s] 58)) (by simp) (heap_alloc_new w1 (.cells #[.int .i64 p, .int .i64 q, .int .i64 r] 58))); have M1 : Hid (((w1.alloc (.cells #[.int .i64 p, .int .i64 q, .int .i64 r] 58)).alloc (.cells #[.int .i64 u, .int .i64 v, .int .i64 s] 58)).heap[w1.heap.size + 1]? = some (.cells #[.int .i64 u, .int .i64 v, .int .i64 s] 58 (0, 0))) := Lib.hid (by simpa using heap_alloc_new (w1.alloc (.cells #[.int .i64 p, .int .i64 q, .int .i64 r] 58)) (.cells #[.int .i64 u, .int .i64 v, .int .i64 s] 58)); have c1 := keepC T1.out (by simp <;> omega) C1; have c1b := keepC T1b.out (by simp <;> omega) C1))
    go_ret
    exact ⟨_, rfl, World.ownsRow_nil _ _ _ _, HB.out.trans (T1b.out.mono (by simp <;> omega))⟩
  | true =>
    have HX := Lib.hid hx
    have BX := isE_true hx
    have HT := Lib.hid (tri_grp BX.1)
    have hn3 : n ≤ 3 := by rw [HN.out]; exact (grpB_true BX.1).1
    have HPL := Lib.hid (plc_tri (grpB_true BX.1).1 x (by have := HT.out.p1; omega))
    rw [← HN.out] at HPL
    have HPC : Hid (plc l x = (List.range n).map (dig l x)) := Lib.hid (by unfold plc; rw [if_pos hx, HN.out])
    clear hx BX
    go_enter Tryz.func17, Tryz.ntmps17
    go_upto_region 4 with (first
      | (go_at_call 66; refine (iIn _ _ _ _ _ x HN.out hm (HI.out.below rfl T0.out)).mono ?_; unfold InPost; rw [HX.out]; rintro e w1 ⟨p, q, r, u, v, s, rfl, hv1, hb1⟩; obtain ⟨e1, e2, e3, e4, e5, e6⟩ := hv1 rfl; have HV1 := Lib.hid (And.intro e1 (And.intro e2 (And.intro e3 (And.intro e4 (And.intro e5 e6))))); clear e1 e2 e3 e4 e5 e6; clear hv1; have T1 := Lib.hid (T0.out.trans (hb1.mono T0.out.size)); have T1a := Lib.hid (T1.out.alloc T1.out.size (.cells #[.int .i64 p, .int .i64 q, .int .i64 r] 58)); have T1b := Lib.hid (T1a.out.alloc T1a.out.size (.cells #[.int .i64 u, .int .i64 v, .int .i64 s] 58)); have N1 := Lib.hid (keepH (Joins.below_alloc1 _ (.cells #[.int .i64 u, .int .i64 v, .int .i64 s] 58)) (by simp) (heap_alloc_new w1 (.cells #[.int .i64 p, .int .i64 q, .int .i64 r] 58))); have M1 : Hid (((w1.alloc (.cells #[.int .i64 p, .int .i64 q, .int .i64 r] 58)).alloc (.cells #[.int .i64 u, .int .i64 v, .int .i64 s] 58)).heap[w1.heap.size + 1]? = some (.cells #[.int .i64 u, .int .i64 v, .int .i64 s] 58 (0, 0))) := Lib.hid (by simpa using heap_alloc_new (w1.alloc (.cells #[.int .i64 p, .int .i64 q, .int .i64 r] 58)) (.cells #[.int .i64 u, .int .i64 v, .int .i64 s] 58)); have c1 := keepC T1.out (by simp <;> omega) C1; have c1b := keepC T1b.out (by simp <;> omega) C1))
    obtain ⟨tb0, tb1, tb2, tf0, tf1, tf2⟩ := trip_cell M1.out
    have W0 := Lib.hid T1b.out
    generalize hV : ((w1.alloc (.cells #[.int .i64 p, .int .i64 q, .int .i64 r] 58)).alloc (.cells #[.int .i64 u, .int .i64 v, .int .i64 s] 58)) = V at *
    have HVS : Hid (V.heap.size = w1.heap.size + 1 + 1) := Lib.hid (by rw [← hV]; simp)
    clear hV
    go_wp2_with (at_make; refine wpList_make_full _ rfl _ _ 24 rfl V.heap.size 3 i0 (.int .i64 0) 1 Tryz.underlying24 hi0 hz0 hz1 .i64 .i64 _ _ n rfl rfl ?c0 ?c00 ?c1 ?c2 ?c3 ?_)
    case c0 => rfl
    case c00 => rfl
    case c1 => rw [hz2]; omega
    case c2 => unfold maxLen; omega
    case c3 => omega
    intro w3 hown hgrow
    have hown2 := own_heap hown
    rw [toList_madeCells_one] at hown2
    have HO3 := Lib.hid hown2
    have HB3 : Hid (Below V.heap.size V w3) := Lib.hid ((Below.refl _ _).grown hgrow (Nat.le_refl _) (fun q hq => by cases hq))
    have c9 := keepC HB3.out (by have h1 := T1.out.size; have h2 := HVS.out; simp at h1 ⊢; omega) c1b
    obtain ⟨e1, e2, e3, _, _, _⟩ := trip_cell (keepH HB3.out (by rw [HVS.out]; omega) M1.out)
    obtain ⟨cs, HC⟩ : ∃ cs, Hid ((([u, v, s].take n).map (Value.int .i64)) = cs) := ⟨_, Lib.hid rfl⟩
    have C1l : Hid (cs.length = n) := Lib.hid (by rw [← HC.out]; simp; omega)
    have C2 : Hid (cs.length = Nat.min 3 n) := Lib.hid (by rw [C1l.out]; exact (Nat.min_eq_right hn3).symm)
    have C3 : Hid (0 < cs.length → (some ⟨V.heap.size, 0, none⟩ : Option Addr) = some ⟨V.heap.size, 0, none⟩ ∧ ∃ ad, (some ⟨w1.heap.size + 1, 0, none⟩ : Option Addr) = some ad ∧ ∀ j x, cs[j]? = some x → w3.cell? (ad.add j) = some x) := Lib.hid (fun _ => ⟨rfl, _, rfl, fun j x hj => by
      have hj3 : j < n := by
        rcases Nat.lt_or_ge j n with h | h
        · exact h
        · rw [List.getElem?_eq_none (by rw [C1l.out]; exact h)] at hj; cases hj
      rw [← HC.out, List.getElem?_map, List.getElem?_take, if_pos hj3] at hj
      have h3 : j = 0 ∨ j = 1 ∨ j = 2 := by omega
      rcases h3 with rfl | rfl | rfl
      · simp at hj; subst hj; simpa [Addr.add] using e1
      · simp at hj; subst hj; simpa [Addr.add] using e2
      · simp at hj; subst hj; simpa [Addr.add] using e3⟩)
    have C4 : Hid (0 + cs.length ≤ (List.replicate n (Value.int .i64 0)).length) := Lib.hid (by rw [C1l.out]; simp)
    have C5 : Hid (∀ x ∈ cs, x.oneCell' = true) := Lib.hid (fun x hx => by rw [← HC.out] at hx; obtain ⟨y, _, rfl⟩ := List.mem_map.1 hx; rfl)
    have C6 : Hid (splice (List.replicate n (Value.int .i64 0)) 0 cs = cs) := Lib.hid (by
      unfold splice
      rw [List.drop_eq_nil_of_le (by rw [C1l.out]; simp)]; simp)
    clear hown hgrow hown2 e1 e2 e3 tb0 tb1 tb2 tf0 tf1 tf2
    go_wp2_with ((with_reducible refine wpList_copy_splice rfl (.tmp 22) (.tmp 23) 24 24 rfl 3 Tryz.underlying24 intSz (some ⟨V.heap.size, 0, none⟩) (some ⟨w1.heap.size + 1, 0, none⟩) n n 3 3 (by simp [Act.eval]) (by simp [Act.eval]) V.heap.size 0 (List.replicate n (.int .i64 0)) 3 HO3.out cs C2.out C3.out C4.out C5.out V.heap.size V HB3.out (Nat.le_refl _) ?_); intro w4 hg4 hb4)
    go_ret
    have hres := hg4.out
    rw [C6.out] at hres
    have hpl : ([x % l.getD 0 1, x / l.getD 0 1 % l.getD 1 1, x / l.getD 0 1 / l.getD 1 1 % l.getD 2 1].take n).map (Value.int .i64) = cs := by
      obtain ⟨f1, f2, f3, f4, f5, f6⟩ := HV1.out
      rw [← HC.out, f4, f5, f6]
    refine ⟨_, rfl, ?_, HB.out.trans ((T1b.out.trans (hb4.mono T1b.out.size)).mono (by simp <;> omega))⟩
    have hfin := heap_own (B := w.heap.size) (n := n) hres (by have h1 := T1.out.size; have h2 := HVS.out; simp at h1; omega) C1l.out.symm (by unfold maxLen; omega)
    have fin : ∀ X : List Int, X.map (Value.int .i64) = cs → w4.ownsRow w.heap.size 3 1 (.slice (some ⟨V.heap.size, 0, none⟩) n n) X.length (X.map (Value.int .i64)) := fun X h1 => by
      have h2 : X.length = n := by rw [← C1l.out, ← h1, List.length_map]
      rw [h1, h2]; exact hfin
    exact fin _ (by rw [HPC.out, HPL.out]; exact hpl)
end Go.Proofs.YticgoodmfjjggaaGreatDoor
