/- The drawing of a group with two tables. -/
import Derived.Test.YthlpjiibjlaebaaDoorMGAO
import Derived.Maps.AppendAt
import Derived.RangeFuncBox
namespace Go.Proofs.YthlpjiibjlaebaaDoor
open Go.RowKit
set_option maxRecDepth 1000000
theorem draw_grp (j : Nat) (h : j < 23) : grpB (drawOL.getD j []) = true := by
  have h2 : ∀ k : Fin 23, grpB (drawOL.getD k.val []) = true := by decide
  exact h2 ⟨j, h⟩
theorem news1d (w : World) (x : Value) (T : TypeId) : ∀ (j : Nat) (u : Value), [x][j]? = some u → (w.alloc (.cells #[x] T)).cell? ((⟨w.heap.size, 0, none⟩ : Addr).add j) = some u := fun j u hu => by
  match j, hu with
  | 0, hu =>
    simp at hu
    subst hu
    simp [Addr.add]
theorem one1d (x : Int) : ∀ u ∈ [Value.int .i64 x], u.oneCell' = true := fun u hu => by simp at hu; subst hu; rfl
theorem rowG {w w' : World} {B C n : Nat} {v : Value} {xs : List Value} (h : w.ownsRow B 3 1 v n xs) (hg : w.grownBy w' (some C)) (hB : C < B) : w'.ownsRow B 3 1 v n xs :=
  h.kept hg (.inr fun e => by have := (h.lt _ e).1; omega)
theorem lit3_cnv (i : Nat) (h : i < 3) : ∃ z : Int, -9223372036854775808 ≤ z ∧ z ≤ 9223372036854775807 ∧ (#[.int .i64 10001, .int .i64 (-9223372036854775808), .int .i64 10000] : Array Value)[i]? = some (.int .i64 z) := by
  match i, h with
  | 0, _ => exact ⟨10001, by decide, by decide, rfl⟩
  | 1, _ => exact ⟨-9223372036854775808, by decide, by decide, rfl⟩
  | 2, _ => exact ⟨10000, by decide, by decide, rfl⟩
set_option maxHeartbeats 4000000 in
theorem l2DrawG_any (w : World) (C : Nat) (a : Option Addr) (len cap : Nat) (most : Int) (hlen : len ≤ 1048576) (hc : CurAt w C a len cap) (hd : DataAt w C a len) :
    Calls Tryd.prog 90 #[.pointer (some ⟨C, 0, none⟩), .int .i64 most] w fun e w' => ∃ (u : Value) (l : List Int), e = .returned (.agg #[u]) ∧ w'.ownsRow w.heap.size 3 1 u l.length (l.map (Value.int .i64)) ∧ l.length ≤ 3 ∧ grpB l = true ∧ CurAt w' C a len cap ∧ w.grownBy w' (some C) := by
  have HC := Lib.hid hc
  have HD := Lib.hid hd
  have hCw : C < w.heap.size := hc.lt
  have HG0 := Lib.hid (grownG_trans (World.grownBy_alloc w (.cells #[.slice none 0 0] 26) (some C)) (push_grown (w.alloc (.cells #[.slice none 0 0] 26)) (drawObjs (w.heap.size + 1)) (some C)))
  have HG0n := Lib.hid (grownG_trans (World.grownBy_alloc w (.cells #[.slice none 0 0] 26) none) (push_grown (w.alloc (.cells #[.slice none 0 0] 26)) (drawObjs (w.heap.size + 1)) none))
  have HSZ := Lib.hid (push_size (w.alloc (.cells #[.slice none 0 0] 26)) (drawObjs (w.heap.size + 1)))
  have HR0 : Hid ((pushAll (w.alloc (.cells #[.slice none 0 0] 26)) (drawObjs (w.heap.size + 1))).heap[w.heap.size]? = some (.cells #[.slice none 0 0] 26 (0, 0))) := Lib.hid (((push_grown (w.alloc (.cells #[.slice none 0 0] 26)) (drawObjs (w.heap.size + 1)) none).block w.heap.size (by simp) (by simp)).trans (heap_alloc_new w _))
  have HAT : Hid (∀ j o, (drawObjs (w.heap.size + 1))[j]? = some o → (pushAll (w.alloc (.cells #[.slice none 0 0] 26)) (drawObjs (w.heap.size + 1))).heap[w.heap.size + 1 + j]? = some o) := Lib.hid (fun j o h => by have := push_at (w.alloc (.cells #[.slice none 0 0] 26)) (drawObjs (w.heap.size + 1)) j o h; simpa using this)
  clear hc hd
  obtain ⟨i0, hi0, hz0, hz1, hz2⟩ := info_parts intInfo
  go_enter Tryd.func90, Tryd.ntmps90
  go_upto_region 2 with (fail)
  change Code.wp Tryd.prog _ _ _ (pushAll (w.alloc (.cells #[.slice none 0 0] 26)) (drawObjs (w.heap.size + 1)))
  generalize pushAll (w.alloc (.cells #[.slice none 0 0] 26)) (drawObjs (w.heap.size + 1)) = W at *
  have HCW := Lib.hid (HC.out.other (HG0n.out.block C hCw (by simp)))
  have HDW := Lib.hid (HD.out.grown HG0.out)
  have HBS := Lib.hid (below_small W C a len cap 23 hlen HCW.out HDW.out (by decide) (by decide))
  have HO : Hid (W.heap[w.heap.size + 1 + 1 + 1 + 1 + 1 + 1 + 1 + 1 + 1 + 1 + 1 + 1 + 1 + 1 + 1 + 1 + 1 + 1 + 1 + 1 + 1 + 1 + 1 + 1]? = some (.cells (((List.range 23).map fun j => Value.slice (some ⟨w.heap.size + 1 + j, 0, none⟩) (drawOL.getD j []).length (drawOL.getD j []).length)).toArray 24 (0, 0))) := Lib.hid (HAT.out 23 _ (draw_outer _))
  go_upto_region 3 with (first
    | (go_at_call 92; refine HBS.out.mono ?_; rintro e w3 ⟨x, rfl, hx0, hx1, hcur, hg⟩; obtain ⟨j, rfl⟩ : ∃ j : Nat, x = j := ⟨x.toNat, by omega⟩; have hj : j < 23 := (by omega); have rc := hg.cell (draw_cell HO.out hj) (fun e => by simp at e; omega); have HI := Lib.hid (draw_ints (HAT.out j _ (draw_obj _ j hj))); have hs3 := draw_short j hj; have hgb := draw_grp j hj; have HCU := Lib.hid hcur; have HG3 := Lib.hid hg))
  have hjW : w.heap.size + 1 + j < W.heap.size := by have := HSZ.out; simp [drawObjs, drawOL] at this; omega
  clear HAT HBS HDW HCW HSZ
  have hlE : drawOL.getD j [] = drawOL[j]?.getD [] := by simp [List.getD_eq_getElem?_getD]
  rw [hlE] at HI hs3 hgb
  clear hlE HO
  generalize drawOL[j]?.getD [] = l at *
  have HGB := Lib.hid hgb
  clear hgb
  have HI3 : Hid (Ints w3 (some ⟨w.heap.size + 1 + j, 0, none⟩) l) := Lib.hid (ints_grown HI.out HG3.out (by simp; omega))
  have hsz3 : w.heap.size < w3.heap.size := by have := HG3.out.size; omega
  have R3 : Hid (w3.heap[w.heap.size]? = some (.cells #[.slice none 0 0] 26 (0, 0))) := Lib.hid ((HG3.out.block _ (by omega) (by simp; omega)).trans HR0.out)
  have HW3 := Lib.hid (grownC_trans HG0.out HG3.out)
  clear hcur hg rc HI HG3 HG0 HG0n HR0 hjW
  go_wp2
  go_loop [7, 8] (fun n i => ∃ (k : Nat) (q : Int), k ≤ l.length ∧ i = .int .i64 k ∧ n = .int .i64 q) (fun _ i => l.length - (intOf i).toNat)
  case atStart => exact ⟨0, _, Nat.zero_le _, rfl, rfl⟩
  case round =>
    obtain ⟨k, q, hk, rfl, rfl⟩ := hrel
    by_cases hlt : k < l.length
    · have hcell := ints_lt HI3.out hlt
      go_wp2
      go_round
      case rel => exact ⟨k + 1, _, by omega, by go_num, rfl⟩
      case measure => simp [intOf]; omega
    · by_cases hq : q > most
      · obtain ⟨c1, f1⟩ := one_cell R3.out
        have f1' : (w3.alloc (.cells #[.int .i64 5] 3)).frozen? ⟨w.heap.size, 0, none⟩ = false := (frozen?_alloc_cells _ _ _ _).trans f1
        have c1' : (w3.alloc (.cells #[.int .i64 5] 3)).cell? ⟨w.heap.size, 0, none⟩ = some (.slice none 0 0) := (World.cell?_alloc_past _ _ _ hsz3).trans c1
        have hC3 : C < w3.heap.size := by omega
        have E := Lib.hid (group_end hCw HCU.out hC3 HW3.out hsz3 (World.grownBy_alloc w3 (.cells #[.int .i64 5] 3) none) (World.ownsRow_lit w3 #[.int .i64 5] 1 (Nat.le_refl _) (by decide) rfl))
        rw [World.setCell_alloc_past (.cells #[.int .i64 5] 3) w.heap.size 0 (.slice (some ⟨w3.heap.size, 0, none⟩) 1 1) hsz3] at E
        have c2 : ((w3.setCell ⟨w.heap.size, 0, none⟩ (.slice (some ⟨w3.heap.size, 0, none⟩) 1 1)).alloc (.cells #[.int .i64 5] 3)).cell? ⟨w.heap.size, 0, none⟩ = some (.slice (some ⟨w3.heap.size, 0, none⟩) 1 1) := (World.cell?_alloc_past _ _ _ (by simpa using hsz3)).trans (World.cell?_setCell_same _ _ _ c1)
        go_wp2
        refine bodyPost_ret (v := .agg #[.slice (some ⟨w3.heap.size, 0, none⟩) 1 1]) (by simp [results, Tryd.results90, go_sem, c2]) rfl ?_
        exact ⟨_, rfl, [5], E.out.1, by decide, by decide, E.out.2.1, E.out.2.2⟩
      · obtain ⟨c1, f1⟩ := one_cell R3.out
        have hC3 : C < w3.heap.size := by omega
        have HW4 := Lib.hid (World.grownBy_alloc w3 (.cells #[] 3) none)
        have HO4 := Lib.hid (World.ownsRow_lit (e := 3) (size := 1) w3 #[] 0 (Nat.le_refl _) (by decide) rfl)
        have HJ : Hid (w.heap.size + 1 + j < w3.heap.size ∨ l = []) := Lib.hid (by rcases HI3.out with h | ⟨b, off, ha, hb, _⟩; exact .inr h; injection ha with ha; injection ha with e1 _ _; subst e1; exact .inl hb)
        go_wp2_with (at_builtin; refine wpList_append_own _ rfl _ _ 24 rfl w3.heap.size 3 i0 (.int .i64 0) 1 8 Tryd.underlying24 hi0 hz0 hz1 hz2 rfl (by decide) _ _ _ rfl HO4.out ⟨w.heap.size + 1 + j, 0, none⟩ l.length l.length (l.map (Value.int .i64)) rfl (by simp) ?c1 ?c2 ?c3 ?c4 ?c5 ?_)
        case c1 =>
          intro k z hz
          have hk := (List.getElem?_eq_some_iff.1 hz).1
          have hcell := ints_lt HI3.out hk
          have hv : l.getD k 0 = z := by simp [List.getD, hz]
          rw [hv] at hcell
          have hb : w.heap.size + 1 + j < w3.heap.size := by
            rcases HJ.out with h | h
            · exact h
            · subst h; simp at hk
          exact (World.cell?_alloc_past _ _ _ hb).trans hcell
        case c2 => intro z _; rfl
        case c3 => unfold maxLen; omega
        case c4 => omega
        intro v' w' hown hgrow _
        have hgr : w3.grownBy w' none := ⟨hgrow.os.trans HW4.out.os, hgrow.tape.trans HW4.out.tape, hgrow.output.trans HW4.out.output, Nat.le_trans HW4.out.size hgrow.size, fun b hb hn => (hgrow.block b (Nat.lt_of_lt_of_le hb HW4.out.size) (by intro e; simp [Value.ownBlock] at e; omega)).trans (HW4.out.block b hb hn)⟩
        obtain ⟨cg, fg⟩ := one_cell ((hgr.block _ hsz3 (by simp)).trans R3.out)
        obtain ⟨ao, n', cap', rfl⟩ : ∃ ao n' cap', v' = .slice ao n' cap' := by
          rcases hown.2 with ⟨h, _⟩ | ⟨g, cap, cur, h, _⟩
          · exact ⟨_, _, _, h⟩
          · exact ⟨_, _, _, h⟩
        have E := Lib.hid (group_end hCw HCU.out hC3 HW3.out hsz3 hgr hown)
        have c2 := World.cell?_setCell_same w' ⟨w.heap.size, 0, none⟩ (.slice ao n' cap') cg
        clear hown hgrow hgr
        go_wp2
        refine bodyPost_ret (v := .agg #[.slice ao n' cap']) (by simp [results, Tryd.results90, go_sem, c2]) rfl ?_
        exact ⟨_, l, rfl, E.out.1, by omega, HGB.out, E.out.2.1, E.out.2.2⟩
/-- A drawn group with two tables of its own. -/
def DrawnT (w : World) (e : Ending) (w' : World) : Prop := ∃ (u : Value) (l : List Int) (v1 v2 : Value) (p q : List Int), e = .returned (.tuple #[.agg #[u], v1, v2]) ∧ w'.ownsRow w.heap.size 3 1 v1 p.length (p.map (Value.int .i64)) ∧ w'.ownsRow w.heap.size 3 1 v2 q.length (q.map (Value.int .i64)) ∧ p.length ≤ 24 ∧ q.length ≤ 24 ∧ DGrp w u l w'
set_option maxHeartbeats 8000000 in
theorem dCnv_any (w : World) (a : Option Addr) (len cap : Nat) (hlen : len ≤ 1048576) (hd : CodeIn w a len) :
    Calls Tryd.prog 40 #[.slice a len cap] w (DrawnT w) := by
  obtain ⟨i0, hi0, hz0, hz1, hz2⟩ := info_parts intInfo
  have HCI := Lib.hid hd
  have HN := Lib.hid (new_at w a len cap hlen hd)
  clear hd
  go_enter Tryd.func40, Tryd.ntmps40
  go_wp2_with (first
    | (go_at_call 90; refine (l2DrawG_any _ _ a len cap 12 hlen HC1.out HD1.out).mono ?_; rintro e w2 ⟨u, l, rfl, ho, hl, hgb, hcur, hg⟩; obtain ⟨au, cu, rfl, m2⟩ := mid_of HD1.out HB1.out HC1.out ho (by omega) hcur hg; have HGB := Lib.hid hgb; have M2 := Lib.hid m2; clear ho hl hgb hcur hg m2; have M3 := Lib.hid (M2.out.alloc #[.slice au l.length cu] 26); have g3 := newC w2 (.slice au l.length cu) 26 (n := w2.heap.size) rfl; have G2 := Lib.hid M2.out.lt; have U2 := Lib.hid (fun k hk => (M2.out.own.lt k hk).2))
    | (go_at_call 74; refine HN.out.mono ?_; rintro e w1 ⟨rfl, hcur, hda, hbel⟩; have HC1 := Lib.hid hcur; have HD1 := Lib.hid hda; have HB1 := Lib.hid hbel; clear hcur hda hbel))
  have hpr := (ords_grp HGB.out).prod
  obtain ⟨N, hN⟩ : ∃ N : Nat, prodI l = (N : Int) := ⟨(prodI l).toNat, by omega⟩
  have HNN := Lib.hid hN
  have hN1 : 1 ≤ N := by omega
  have hN24 : N ≤ 24 := by omega
  obtain ⟨W3, HW3⟩ : ∃ W3, Hid (w2.alloc (.cells #[.slice au l.length cu] 26) = W3) := ⟨_, Lib.hid rfl⟩
  have hs3 : W3.heap.size = w2.heap.size + 1 := by rw [← HW3.out]; simp
  rw [HW3.out] at M3 g3
  rw [HW3.out]
  have g4 := keepD (Joins.below_alloc1 W3 (.cells #[] 3)) g3
  have g5 := keepD (Joins.below_alloc1 (W3.alloc (.cells #[] 3)) (.cells #[] 3)) g4
  have M5 := Lib.hid ((M3.out.alloc #[] 3).alloc #[] 3)
  have O5 : Hid (((W3.alloc (.cells #[] 3)).alloc (.cells #[] 3)).ownsRow (w2.heap.size + 1) 3 1 (.slice (some ⟨W3.heap.size, 0, none⟩) 0 0) 0 []) := Lib.hid ((ownsRow_lower (World.ownsRow_lit (e := 3) (size := 1) W3 #[] 0 (Nat.le_refl _) (by decide) rfl) (by omega)).alloc _)
  have Q5 : Hid (((W3.alloc (.cells #[] 3)).alloc (.cells #[] 3)).ownsRow (w2.heap.size + 1) 3 1 (.slice (some ⟨(W3.alloc (.cells #[] 3)).heap.size, 0, none⟩) 0 0) 0 []) := Lib.hid (ownsRow_lower (World.ownsRow_lit (e := 3) (size := 1) (W3.alloc (.cells #[] 3)) #[] 0 (Nat.le_refl _) (by decide) rfl) (by simp; omega))
  have HB := Lib.hid (And.intro M5.out.few G2.out)
  clear hpr hN
  go_loopw [7, 8, 9] (fun v u iv wr => ∃ (k : Nat) (P Q : List Int), iv = .int .i64 k ∧ k ≤ N ∧ Hid (P.length = k) ∧ Hid (Q.length = k) ∧ wr.ownsRow (w2.heap.size + 1) 3 1 v P.length (P.map (Value.int .i64)) ∧ wr.ownsRow (w2.heap.size + 1) 3 1 u Q.length (Q.map (Value.int .i64)) ∧ v.ownBlock ≠ u.ownBlock ∧ MidG w wr a len cap au cu l ∧ wr.cell? ⟨w2.heap.size, 0, none⟩ = some (.slice au l.length cu)) (fun _ _ iv _ => N - (intOf iv).toNat)
  case atStart => exact ⟨0, [], [], rfl, Nat.zero_le _, Lib.hid rfl, Lib.hid rfl, by simpa [hs3] using O5.out, by simpa [hs3] using Q5.out, by simp [Value.ownBlock], M5.out, g5⟩
  case round =>
    obtain ⟨k, P, Q, rfl, hkN, HPK, HQK, ho, hq, hne, hmid, hcell⟩ := hrel
    have hP24 : P.length ≤ 24 := by rw [HPK.out]; omega
    have hQ24 : Q.length ≤ 24 := by rw [HQK.out]; omega
    obtain ⟨ap, cp, rfl⟩ := own_slice' rfl ho
    obtain ⟨aq, cq, rfl⟩ := own_slice' rfl hq
    have HO := Lib.hid ho
    have HQ := Lib.hid hq
    have HNE := Lib.hid hne
    have M := Lib.hid hmid
    clear ho hq hne hmid
    by_cases hk : k < N
    case neg =>
      obtain rfl : k = N := by omega
      go_wp2_with (go_at_call 91; refine (sOrder _ _ l _ _ rfl HGB.out M.out.ints).mono ?_; rw [HNN.out]; rintro e w6 ⟨rfl, hb6⟩; have M6 := Lib.hid (M.out.below hb6); have O6 := Lib.hid (owns_below HO.out hb6); have Q6 := Lib.hid (owns_below HQ.out hb6); have g6 := keepD hb6 hcell; clear hb6)
      obtain ⟨g, cp', hv, hge, hgl⟩ := own_block O6.out (by rw [HPK.out]; omega)
      injection hv with e1 e2 e3
      subst e1 e3
      have h0 : 0 < P.length := by rw [HPK.out]; omega
      have h1 : (0 : Int) < (P.length : Int) := by omega
      have hGC : Hid (some g ≠ some (w.heap.size + 1)) := Lib.hid (by have := HB.out.2; simp; omega)
      have hgQ : Hid (g < w6.heap.size) := Lib.hid hgl
      refine (once_any _ _ a len cap 10 hlen M6.out.cur M6.out.dat (by decide) (by decide)).mono ?_
      rintro e w10 ⟨c, rfl, hcur, hg⟩
      have M10 := Lib.hid (M6.out.grown hcur hg)
      have O10 := Lib.hid (O6.out.kept hg (.inr hGC.out))
      have Q10 := Lib.hid (rowG Q6.out hg (by have := HB.out.2; omega))
      have g10 := hg.cell g6 (by have := HB.out.2; simp; omega)
      clear hcur hg g6 hcell
      cases c
      · have c7 := M10.out.cells.1
        have f7 := M10.out.cells.2
        have c8 := World.cell?_setCell_same w10 ⟨w.heap.size, 0, none⟩ (.slice au l.length cu) c7
        have HF := Lib.hid M10.out.finish
        have OP := Lib.hid (ownsRow_lower (base' := w.heap.size) (ownsRow_setCell_below (a := ⟨w.heap.size, 0, none⟩) O10.out (by have := HB.out.2; show w.heap.size < _; omega) (.slice au l.length cu)) (by have := HB.out.2; omega))
        have OQ := Lib.hid (ownsRow_lower (base' := w.heap.size) (ownsRow_setCell_below (a := ⟨w.heap.size, 0, none⟩) Q10.out (by have := HB.out.2; show w.heap.size < _; omega) (.slice au l.length cu)) (by have := HB.out.2; omega))
        go_wp2
        refine bodyPost_ret (v := .tuple #[.agg #[.slice au l.length cu], .slice (some ⟨g, 0, none⟩) P.length cp, .slice aq Q.length cq]) (by simp [results, Tryd.results40, go_sem, c8]) rfl ?_
        exact ⟨.slice au l.length cu, l, .slice (some ⟨g, 0, none⟩) P.length cp, .slice aq Q.length cq, P, Q, rfl, OP.out, OQ.out, by omega, by omega, HF.out.1, M10.out.few, HF.out.2⟩
      · have M11 := Lib.hid (M10.out.alloc #[.int .i64 10001, .int .i64 (-9223372036854775808), .int .i64 10000] 3)
        have O11 := Lib.hid (O10.out.alloc (.cells #[.int .i64 10001, .int .i64 (-9223372036854775808), .int .i64 10000] 3))
        have Q11 := Lib.hid (Q10.out.alloc (.cells #[.int .i64 10001, .int .i64 (-9223372036854775808), .int .i64 10000] 3))
        have g11 := keepD (Joins.below_alloc1 w10 (.cells #[.int .i64 10001, .int .i64 (-9223372036854775808), .int .i64 10000] 3)) g10
        have hC10 : w.heap.size + 1 < w10.heap.size := M10.out.cur.lt
        have F12 := Lib.hid (pick_any (w10.alloc (.cells #[.int .i64 10001, .int .i64 (-9223372036854775808), .int .i64 10000] 3)) (w.heap.size + 1) a len cap w10.heap.size 3 3 hlen M11.out.cur M11.out.dat (by omega) (by omega) (by omega) (fun i hi => by
          obtain ⟨z, hz0, hz1, hz⟩ := lit3_cnv i hi
          exact ⟨z, hz0, hz1, (World.cell?_alloc_at _ _ _ _ rfl).trans hz⟩))
        go_wp2_with fail
        refine F12.out.mono ?_
        rintro e w12 ⟨z, rfl, hz0, hz1, hcur, hg⟩
        have M12 := Lib.hid (M11.out.grown hcur hg)
        have O12 := Lib.hid (O11.out.kept hg (.inr hGC.out))
        have Q12 := Lib.hid (rowG Q11.out hg (by have := HB.out.2; omega))
        have g12 := hg.cell g11 (by have := HB.out.2; simp; omega)
        have hfr := O12.out.frozenAt 0
        have hcell := O12.out.cellAt 0 (by simpa using h0)
        have e9 : (P.set 0 z).length = P.length := by simp
        have hgs : w12.grownBy (w12.setCell ⟨g, 0, none⟩ (.int .i64 z)) (some g) := grownBy_setCell' w12 g (.int .i64 z)
        have O13 : Hid ((w12.setCell ⟨g, 0, none⟩ (.int .i64 z)).ownsRow (w2.heap.size + 1) 3 1 (.slice (some ⟨g, 0, none⟩) P.length cp) (P.set 0 z).length ((P.set 0 z).map (Value.int .i64))) := Lib.hid (by
          have h := (O12.out.stored 0 (.int .i64 z)).1
          rw [e9, List.map_set]
          exact h)
        have Q13 := Lib.hid (Q12.out.kept hgs (.inr (fun e => HNE.out (by rw [e]; rfl))))
        have M13 := Lib.hid (M12.out.grown2 HCI.out hgs (w2.heap.size + 1) (by have := HB.out.2; omega) (fun k hk => by cases hk; exact hge) (fun k hk => by have := U2.out k hk; omega))
        have g13 := hgs.cell g12 (fun e => by simp at e; omega)
        have c7 := M13.out.cells.1
        have f7 := M13.out.cells.2
        have c8 := World.cell?_setCell_same (w12.setCell ⟨g, 0, none⟩ (.int .i64 z)) ⟨w.heap.size, 0, none⟩ (.slice au l.length cu) c7
        have HF := Lib.hid M13.out.finish
        have OP := Lib.hid (ownsRow_lower (base' := w.heap.size) (ownsRow_setCell_below (a := ⟨w.heap.size, 0, none⟩) O13.out (by have := HB.out.2; show w.heap.size < _; omega) (.slice au l.length cu)) (by have := HB.out.2; omega))
        have OQ := Lib.hid (ownsRow_lower (base' := w.heap.size) (ownsRow_setCell_below (a := ⟨w.heap.size, 0, none⟩) Q13.out (by have := HB.out.2; show w.heap.size < _; omega) (.slice au l.length cu)) (by have := HB.out.2; omega))
        clear hcur hg g10 g11 g12 hgs
        go_wp2
        refine bodyPost_ret (v := .tuple #[.agg #[.slice au l.length cu], .slice (some ⟨g, 0, none⟩) P.length cp, .slice aq Q.length cq]) (by simp [results, Tryd.results40, go_sem, c8]) rfl ?_
        exact ⟨.slice au l.length cu, l, .slice (some ⟨g, 0, none⟩) P.length cp, .slice aq Q.length cq, P.set 0 z, Q, rfl, OP.out, OQ.out, by (rw [e9]; omega), by omega, HF.out.1, M13.out.few, HF.out.2⟩
    go_upto_region 9 with (first
      | (at_builtin; refine wpList_append_own_at _ rfl _ _ 24 rfl (w2.heap.size + 1) 3 i0 (.int .i64 0) 1 8 Tryd.underlying24 hi0 hz0 hz1 hz2 rfl (by decide) _ _ _ rfl (O7.out.alloc (.cells #[.int .i64 (x - 2)] 3)) ⟨w7.heap.size, 0, none⟩ 1 1 [.int .i64 (x - 2)] rfl (by simp) (news1d _ _ _) (one1d _) (by unfold maxLen; omega) (by omega) (World.block_lt_of_cell? _ _ (keepD (Joins.below_alloc1 w7 (.cells #[.int .i64 (x - 2)] 3)) g7)) ?_; intro v8 w8 hown hgrow _ hblk; obtain ⟨an, n', cn, rfl⟩ := own_form hown; have ON := Lib.hid hown; have HGN := Lib.hid hgrow; have HBK := Lib.hid hblk; clear hown hgrow hblk)
      | (go_at_call 92; refine (below_small _ _ a len cap 5 hlen M6.out.cur M6.out.dat (by omega) (by omega)).mono ?_; rintro e w7 ⟨x, rfl, hx0, hx1, hcur, hg⟩; have M7 := Lib.hid (M6.out.grown hcur hg); have O7 := Lib.hid (rowG O6.out hg (by have := HB.out.2; omega)); have Q7 := Lib.hid (rowG Q6.out hg (by have := HB.out.2; omega)); have g7 := hg.cell g6 (by have := HB.out.2; simp; omega); clear hcur hg)
      | (go_at_call 91; refine (sOrder _ _ l _ _ rfl HGB.out M.out.ints).mono ?_; rw [HNN.out]; rintro e w6 ⟨rfl, hb6⟩; have M6 := Lib.hid (M.out.below hb6); have O6 := Lib.hid (owns_below HO.out hb6); have Q6 := Lib.hid (owns_below HQ.out hb6); have g6 := keepD hb6 hcell; clear hb6))
    have M8 := Lib.hid ((M7.out.alloc #[.int .i64 (x - 2)] 3).grown2 HCI.out HGN.out (w2.heap.size + 1) (by have := HB.out.2; omega) (fun k hk => (O7.out.lt k hk).1) (fun k hk => by have := U2.out k hk; omega))
    have g8 := HGN.out.cell (keepD (Joins.below_alloc1 w7 (.cells #[.int .i64 (x - 2)] 3)) g7) (fun e => by have := (O7.out.lt _ e.symm).1; simp at this; omega)
    have Q8 := Lib.hid ((Q7.out.alloc (.cells #[.int .i64 (x - 2)] 3)).kept HGN.out (.inr (fun e => HNE.out e.symm)))
    have HNE8 : Hid ((Value.slice an n' cn).ownBlock ≠ (Value.slice aq Q.length cq).ownBlock) := Lib.hid (by
      rcases HBK.out with h | h
      · rw [h]; exact HNE.out
      · rw [h]
        intro e
        have := (Q7.out.lt _ e.symm).2
        simp at this
        omega)
    clear g6 g7 hcell
    go_wp2_with (first
      | (at_builtin; refine wpList_append_own_at _ rfl _ _ 24 rfl (w2.heap.size + 1) 3 i0 (.int .i64 0) 1 8 Tryd.underlying24 hi0 hz0 hz1 hz2 rfl (by decide) _ _ _ rfl (Q9.out.alloc (.cells #[.int .i64 (y - 2)] 3)) ⟨w9.heap.size, 0, none⟩ 1 1 [.int .i64 (y - 2)] rfl (by simp) (news1d _ _ _) (one1d _) (by unfold maxLen; omega) (by omega) (World.block_lt_of_cell? _ _ (keepD (Joins.below_alloc1 w9 (.cells #[.int .i64 (y - 2)] 3)) g9)) ?_; intro v10 w10 hown hgrow _ hblk; obtain ⟨aw, nw, cw, rfl⟩ := own_form hown; have OW := Lib.hid hown; have HGW := Lib.hid hgrow; have HBW := Lib.hid hblk; clear hown hgrow hblk)
      | (go_at_call 92; refine (below_small _ _ a len cap 5 hlen M8.out.cur M8.out.dat (by omega) (by omega)).mono ?_; rintro e w9 ⟨y, rfl, hy0, hy1, hcur, hg⟩; have M9 := Lib.hid (M8.out.grown hcur hg); have O9 := Lib.hid (rowG ON.out hg (by have := HB.out.2; omega)); have Q9 := Lib.hid (rowG Q8.out hg (by have := HB.out.2; omega)); have g9 := hg.cell g8 (by have := HB.out.2; simp; omega); clear hcur hg))
    have M10 := Lib.hid ((M9.out.alloc #[.int .i64 (y - 2)] 3).grown2 HCI.out HGW.out (w2.heap.size + 1) (by have := HB.out.2; omega) (fun k hk => (Q9.out.lt k hk).1) (fun k hk => by have := U2.out k hk; omega))
    have g10 := HGW.out.cell (keepD (Joins.below_alloc1 w9 (.cells #[.int .i64 (y - 2)] 3)) g9) (fun e => by have := (Q9.out.lt _ e.symm).1; simp at this; omega)
    have O10 := Lib.hid ((O9.out.alloc (.cells #[.int .i64 (y - 2)] 3)).kept HGW.out (.inr HNE8.out))
    have HNE10 : Hid ((Value.slice an n' cn).ownBlock ≠ (Value.slice aw nw cw).ownBlock) := Lib.hid (by
      rcases HBW.out with h | h
      · rw [h]; exact HNE8.out
      · rw [h]
        intro e
        have := (O9.out.lt _ e).2
        simp at this
        omega)
    clear g8 g9
    go_wp2
    go_roundw
    case rel => exact ⟨k + 1, P ++ [x - 2], Q ++ [y - 2], by go_num, by omega, Lib.hid (by rw [List.length_append, HPK.out]; rfl), Lib.hid (by rw [List.length_append, HQK.out]; rfl), by simpa using O10.out, by simpa using OW.out, HNE10.out, M10.out, g10⟩
    case measure => simp [intOf] <;> omega
end Go.Proofs.YthlpjiibjlaebaaDoor
