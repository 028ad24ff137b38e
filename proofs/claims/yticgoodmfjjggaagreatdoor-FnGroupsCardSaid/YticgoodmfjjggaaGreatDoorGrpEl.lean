/- The contracts of the program's own functions on groups: the element of places. -/
import Derived.Test.YticgoodmfjjggaaGreatDoorGrpPl
namespace Go.Proofs.YticgoodmfjjggaaGreatDoor
open Go.RowKit
set_option maxRecDepth 1000000
theorem splice_zero (l : List Int) (h : l.length ≤ 3) : splice [Value.int .i64 0, Value.int .i64 0, Value.int .i64 0] 0 (l.map (Value.int .i64)) = [.int .i64 (l.getD 0 0), .int .i64 (l.getD 1 0), .int .i64 (l.getD 2 0)] := by
  match l, h with
  | [], _ => rfl
  | [_], _ => rfl
  | [_, _], _ => rfl
  | [_, _, _], _ => rfl
  | _ :: _ :: _ :: _ :: _, h => simp at h
theorem ord_pad {l : List Int} {k : Nat} (hk : k < l.length) : l.getD k 1 = l.getD k 0 := by simp [List.getD, hk]
theorem out_pad {l : List Int} {k : Nat} (d : Int) (hk : l.length ≤ k) : l.getD k d = d := by simp [List.getD, hk]
set_option maxHeartbeats 1000000 in
theorem iElem (w : World) (a : Option Addr) (l : List Int) (n cap : Nat) (a2 : Option Addr) (p : List Int) (n2 cap2 : Nat) (hn : n = l.length) (hm : n ≤ 9223372036854775807) (hi : Ints w a l) (hn2 : n2 = p.length) (hi2 : Ints w a2 p) :
    Calls Tryz.prog 16 #[.agg #[.slice a n cap], .slice a2 n2 cap2] w fun e w' => e = .returned (.tuple #[.int .i64 (elemV l p), .bool (decide (ElemP l p))]) ∧ Below w.heap.size w w' := by
  have HI2 := Lib.hid (ints_alloc hi2 (.cells #[.slice a n cap] 26))
  have HN2 := Lib.hid hn2
  clear hi2 hn2
  have HI := Lib.hid (ints_alloc hi (.cells #[.slice a n cap] 26))
  have HN := Lib.hid hn
  have C1 := newC w (.slice a n cap) 26 (n := w.heap.size) rfl
  have HB := Lib.hid (Joins.below_alloc1 w (.cells #[.slice a n cap] 26))
  have T0 := Lib.hid (Below.refl (w.alloc (.cells #[.slice a n cap] 26)).heap.size (w.alloc (.cells #[.slice a n cap] 26)))
  clear hi hn
  cases hg : grpB l with
  | false =>
    have HG := Lib.hid hg
    have hno : ¬ ElemP l p := fun h => by rw [h.1] at hg; cases hg
    rw [show elemV l p = 0 by unfold elemV; rw [if_neg hno], decide_eq_false hno]
    clear hg hno
    go_enter Tryz.func16, Tryz.ntmps16
    go_wp2_with (first | (go_at_call 69; refine (iOrders _ _ _ _ _ HN.out hm HI.out).mono ?_; unfold OrdersPost; rw [HG.out]; rintro e w1 ⟨x, y, z, rfl, hxyz, hb1⟩; have HXYZ := Lib.hid hxyz; clear hxyz; have T1 := Lib.hid (T0.out.trans (hb1.mono T0.out.size)); have T1a := Lib.hid (T1.out.alloc T1.out.size (.cells #[.int .i64 x, .int .i64 y, .int .i64 z] 58)); have N1 := Lib.hid (heap_alloc_new w1 (.cells #[.int .i64 x, .int .i64 y, .int .i64 z] 58)); have c1 := keepC T1.out (by simp <;> omega) C1; have c1a := keepC T1a.out (by simp <;> omega) C1))
    go_ret2
    exact ⟨rfl, HB.out.trans (T1a.out.mono (by simp <;> omega))⟩
  | true =>
    have HG := Lib.hid hg
    have HT := Lib.hid (tri_grp hg)
    have hn3 : n ≤ 3 := by rw [HN.out]; exact (grpB_true hg).1
    by_cases hl : n2 = n
    · subst hl
      have HL : Hid (p.length = l.length) := Lib.hid (by rw [← HN.out, ← HN2.out])
      clear hg
      go_enter Tryz.func16, Tryz.ntmps16
      go_upto_region 4 with (first | (go_at_call 69; refine (iOrders _ _ _ _ _ HN.out hm HI.out).mono ?_; unfold OrdersPost; rw [HG.out]; rintro e w1 ⟨x, y, z, rfl, hxyz, hb1⟩; have HXYZ := Lib.hid hxyz; clear hxyz; have T1 := Lib.hid (T0.out.trans (hb1.mono T0.out.size)); have T1a := Lib.hid (T1.out.alloc T1.out.size (.cells #[.int .i64 x, .int .i64 y, .int .i64 z] 58)); have N1 := Lib.hid (heap_alloc_new w1 (.cells #[.int .i64 x, .int .i64 y, .int .i64 z] 58)); have c1 := keepC T1.out (by simp <;> omega) C1; have c1a := keepC T1a.out (by simp <;> omega) C1))
      obtain ⟨EX, EY, EZ⟩ := HXYZ.out (by first | trivial | rfl)
      have HE := Lib.hid (And.intro EX (And.intro EY EZ))
      rw [← EX, ← EY, ← EZ] at HT
      clear EX EY EZ
      obtain ⟨ta0, ta1, ta2, _, _, _⟩ := trip_cell N1.out
      have TA := Lib.hid (Below.refl (w1.alloc (.cells #[.int .i64 x, .int .i64 y, .int .i64 z] 58)).heap.size (w1.alloc (.cells #[.int .i64 x, .int .i64 y, .int .i64 z] 58)))
      go_wp2_with fail
      go_loop [28] (fun i => ∃ k : Nat, k ≤ n2 ∧ i = .int .i64 k ∧ Hid (∀ j, j < k → 0 ≤ p.getD j 0 ∧ p.getD j 0 < l.getD j 0)) (fun i => n2 - (intOf i).toNat)
      case atStart => exact ⟨0, Nat.zero_le _, rfl, Lib.hid (fun j h => by omega)⟩
      case round =>
        obtain ⟨k, hk, rfl, HA⟩ := hrel
        by_cases hlt : k < n2
        · have hkl2 : k < l.length := by rw [← HN.out]; exact hlt
          have hkp2 : k < p.length := by rw [← HN2.out]; exact hlt
          rcases HI2.out with h0 | ⟨b2, off2, h2, hbl2, hc2⟩
          · rw [h0] at hkp2; simp at hkp2
          subst h2
          have r2 := keepC T1a.out (by simpa using hbl2) (hc2 k hkp2)
          have r1 : (w1.alloc (.cells #[.int .i64 x, .int .i64 y, .int .i64 z] 58)).cell? ⟨w1.heap.size, k, none⟩ = some (.int .i64 (l.getD k 0)) := by
            rw [← ord_pad hkl2]
            obtain ⟨EX, EY, EZ⟩ := HE.out
            have : k = 0 ∨ k = 1 ∨ k = 2 := by omega
            rcases this with rfl | rfl | rfl
            · rw [ta0, EX]
            · rw [ta1, EY]
            · rw [ta2, EZ]
          clear hc2
          by_cases hin : 0 ≤ p.getD k 0 ∧ p.getD k 0 < l.getD k 0
          · have HA2 : Hid (∀ j, j < k + 1 → 0 ≤ p.getD j 0 ∧ p.getD j 0 < l.getD j 0) := Lib.hid (fun j h1 => by
              by_cases e : j = k
              · rw [e]; exact hin
              · exact HA.out j (by omega))
            obtain ⟨h3, h4⟩ := hin
            clear hkl2 hkp2 HA ta0 ta1 ta2
            generalize p.getD k 0 = qq at *
            generalize l.getD k 0 = cc at *
            go_wp2
            go_round
            case rel => exact ⟨k + 1, by omega, by go_num, HA2⟩
            case measure => simp [intOf]; omega
          · have hno : ¬ ElemP l p := fun h => hin (h.2.2 k hkl2)
            have HE1 : Hid (elemV l p = 0) := Lib.hid (by unfold elemV; rw [if_neg hno])
            have HE2 := Lib.hid (decide_eq_false hno)
            have hor : p.getD k 0 < 0 ∨ (0 ≤ p.getD k 0 ∧ l.getD k 0 ≤ p.getD k 0) := by omega
            clear hin hkl2 hkp2 HA hno ta0 ta1 ta2
            generalize p.getD k 0 = qq at *
            generalize l.getD k 0 = cc at *
            rcases hor with h | ⟨h, h'⟩
            all_goals
              go_wp2
              go_ret2
              exact ⟨by rw [HE1.out, HE2.out]; rfl, HB.out.trans (T1a.out.mono (by simp <;> omega))⟩
        · obtain rfl : k = n2 := by omega
          have hyes : ElemP l p := ⟨HG.out, HL.out, fun j hj => HA.out j (by rw [HN.out]; exact hj)⟩
          have HE2 := Lib.hid (decide_eq_true hyes)
          have HE1 : Hid (elemV l p = p.getD 0 0 + x * p.getD 1 0 + x * y * p.getD 2 0) := Lib.hid (by
            unfold elemV; rw [if_pos hyes, HE.out.1, HE.out.2.1]
            exact val_tri (grpB_true HG.out).1 _ _ _ _ (fun _ => rfl) (fun _ => rfl) (fun _ => rfl) (fun h => out_pad 0 (by rw [HL.out]; exact h)) (fun h => out_pad 0 (by rw [HL.out]; exact h)) (fun h => out_pad 0 (by rw [HL.out]; exact h)))
          have HQ : Hid ((0 ≤ p.getD 0 0 ∧ p.getD 0 0 < x) ∧ (0 ≤ p.getD 1 0 ∧ p.getD 1 0 < y) ∧ (0 ≤ p.getD 2 0 ∧ p.getD 2 0 < z)) := Lib.hid (by
            have each : ∀ j, 0 ≤ p.getD j 0 ∧ p.getD j 0 < l.getD j 1 := fun j => by
              by_cases hj : j < l.length
              · rw [ord_pad hj]; exact hyes.2.2 j hj
              · rw [out_pad 0 (by rw [HL.out]; omega), out_pad 1 (by omega)]; decide
            rw [HE.out.1, HE.out.2.1, HE.out.2.2]
            exact ⟨each 0, each 1, each 2⟩)
          have HSP := Lib.hid (splice_zero p (by rw [← HN2.out]; exact hn3))
          obtain ⟨W, hW⟩ : ∃ W, W = ((w1.alloc (.cells #[.int .i64 x, .int .i64 y, .int .i64 z] 58)).alloc (.cells #[.int .i64 0, .int .i64 0, .int .i64 0] 58)) := ⟨_, rfl⟩
          have TW : Hid (Below (w.alloc (.cells #[.slice a k cap] 26)).heap.size (w.alloc (.cells #[.slice a k cap] 26)) W) := Lib.hid (by rw [hW]; exact T1a.out.alloc T1a.out.size _)
          have Q1 : Hid (W.heap[w1.heap.size + 1]? = some (.cells [Value.int .i64 0, Value.int .i64 0, Value.int .i64 0].toArray 58 (0, 0))) := Lib.hid (by rw [hW]; have h := heap_alloc_new (w1.alloc (.cells #[.int .i64 x, .int .i64 y, .int .i64 z] 58)) (.cells #[.int .i64 0, .int .i64 0, .int .i64 0] 58); rw [show (w1.alloc (.cells #[.int .i64 x, .int .i64 y, .int .i64 z] 58)).heap.size = w1.heap.size + 1 by simp] at h; exact h)
          have Q2 : Hid ((p.map (Value.int .i64)).length = Nat.min k 3) := Lib.hid (by rw [List.length_map, ← HN2.out]; exact (Nat.min_eq_left (by omega)).symm)
          have Q3 : Hid (0 < (p.map (Value.int .i64)).length → (some ⟨w1.heap.size + 1, 0, none⟩ : Option Addr) = some ⟨w1.heap.size + 1, 0, none⟩ ∧ ∃ ad, a2 = some ad ∧ ∀ j v, (p.map (Value.int .i64))[j]? = some v → W.cell? (ad.add j) = some v) := Lib.hid (fun hp => by
            refine ⟨rfl, ?_⟩
            rcases HI2.out with h0 | ⟨b, off, h1, hbl, hc⟩
            · rw [h0] at hp; simp at hp
            · refine ⟨_, h1, fun j v hv => ?_⟩
              have hj : j < p.length := by
                rcases Nat.lt_or_ge j p.length with h | h
                · exact h
                · rw [List.getElem?_eq_none (by simpa using h)] at hv; cases hv
              rw [List.getElem?_map, List.getElem?_eq_getElem hj] at hv
              simp only [Option.map_some, Option.some.injEq] at hv
              rw [show (⟨b, off, none⟩ : Addr).add j = ⟨b, off + j, none⟩ by simp [Addr.add], ← hv]
              have h2 := keepC TW.out (by simpa using hbl) (hc j hj)
              simpa [List.getD, List.getElem?_eq_getElem hj] using h2)
          have Q4 : Hid (0 + (p.map (Value.int .i64)).length ≤ [Value.int .i64 0, Value.int .i64 0, Value.int .i64 0].length) := Lib.hid (by rw [List.length_map, ← HN2.out]; simpa using hn3)
          have Q5 : Hid (∀ v ∈ p.map (Value.int .i64), v.oneCell' = true) := Lib.hid (fun v hv => by obtain ⟨x, _, rfl⟩ := List.mem_map.1 hv; rfl)
          have NW : Hid (W.heap[w1.heap.size]? = some (.cells #[.int .i64 x, .int .i64 y, .int .i64 z] 58 (0, 0))) := Lib.hid (by rw [hW]; exact keepH (Joins.below_alloc1 _ _) (by simp) N1.out)
          obtain ⟨g0, EG0⟩ : ∃ g, Hid (p.getD 0 0 = g) := ⟨_, Lib.hid rfl⟩
          obtain ⟨g1, EG1⟩ : ∃ g, Hid (p.getD 1 0 = g) := ⟨_, Lib.hid rfl⟩
          obtain ⟨g2, EG2⟩ : ∃ g, Hid (p.getD 2 0 = g) := ⟨_, Lib.hid rfl⟩
          rw [EG0.out, EG1.out, EG2.out] at HE1 HQ HSP
          go_upto_region 11 with (fail)
          rw [← hW]
          clear hW ta0 ta1 ta2
          go_wp2_with (first | (go_at_call 67; refine (iElement _ _ _ _ _ _ _ HT.out HQ.out.1 HQ.out.2.1 HQ.out.2.2).mono ?_; rintro e w5 ⟨rfl, hb5⟩) | ((with_reducible refine wpList_copy_splice rfl (.tmp 43) (.tmp 44) 24 24 rfl 3 Tryz.underlying24 intSz (some ⟨w1.heap.size + 1, 0, none⟩) a2 3 3 k cap2 (by simp [Act.eval]) (by simp [Act.eval]) (w1.heap.size + 1) 0 [.int .i64 0, .int .i64 0, .int .i64 0] 58 Q1.out (p.map (Value.int .i64)) Q2.out Q3.out Q4.out Q5.out (w1.heap.size + 1) W (Below.refl _ _) (Nat.le_refl _) ?_); intro w4 hg4 hb4; have hh := hg4.out; rw [HSP.out] at hh; obtain ⟨u0, u1, u2, _, _, _⟩ := trip_cell hh; obtain ⟨v0, v1, v2, _, _, _⟩ := trip_cell (keepH hb4 (by omega) NW.out); clear hg4 hh))
          go_ret2
          exact ⟨by rw [HE1.out, HE2.out]; rfl, HB.out.trans (((TW.out.trans (hb4.mono (by have := T1.out.size; simp at *; omega))).trans (hb5.mono (by have h1 := TW.out.size; have h2 := hb4.size; omega))).mono (by simp <;> omega))⟩
    · have hno : ¬ ElemP l p := fun h => hl (by rw [HN.out, HN2.out]; exact h.2.1)
      rw [show elemV l p = 0 by unfold elemV; rw [if_neg hno], decide_eq_false hno]
      have hl2 : ((n2 : Int) != (n : Int)) = true := by simp; omega
      clear hg hno hl
      go_enter Tryz.func16, Tryz.ntmps16
      go_wp2_with (first | (go_at_call 69; refine (iOrders _ _ _ _ _ HN.out hm HI.out).mono ?_; unfold OrdersPost; rw [HG.out]; rintro e w1 ⟨x, y, z, rfl, hxyz, hb1⟩; have HXYZ := Lib.hid hxyz; clear hxyz; have T1 := Lib.hid (T0.out.trans (hb1.mono T0.out.size)); have T1a := Lib.hid (T1.out.alloc T1.out.size (.cells #[.int .i64 x, .int .i64 y, .int .i64 z] 58)); have N1 := Lib.hid (heap_alloc_new w1 (.cells #[.int .i64 x, .int .i64 y, .int .i64 z] 58)); have c1 := keepC T1.out (by simp <;> omega) C1; have c1a := keepC T1a.out (by simp <;> omega) C1))
      go_ret2
      exact ⟨rfl, HB.out.trans (T1a.out.mono (by simp <;> omega))⟩
end Go.Proofs.YticgoodmfjjggaaGreatDoor
