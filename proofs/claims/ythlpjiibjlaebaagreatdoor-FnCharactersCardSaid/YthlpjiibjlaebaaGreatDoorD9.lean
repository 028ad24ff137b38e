/- Two lists of counts drawn. -/
import Derived.Test.YthlpjiibjlaebaaGreatDoorMGAV
import Derived.Test.YthlpjiibjlaebaaGreatDoorMGAN
namespace Go.Proofs.YthlpjiibjlaebaaGreatDoor
open Go.RowKit
set_option maxRecDepth 1000000
/-- The cursor in block w.heap.size, the drawn group's row above. -/
structure MidP (w w3 : World) (a : Option Addr) (len cap : Nat) (au : Option Addr) (cu : Nat) (l : List Int) : Prop where
  cur : CurAt w3 w.heap.size a len cap
  dat : DataAt w3 w.heap.size a len
  own : w3.ownsRow (w.heap.size + 1) 3 1 (.slice au l.length cu) l.length (l.map (Value.int .i64))
  few : l.length ≤ 4
  bel : Below w.heap.size w w3
  lt : w.heap.size + 1 ≤ w3.heap.size
section
variable {w w2 w3 w4 : World} {a : Option Addr} {len cap : Nat} {au : Option Addr} {cu : Nat} {l : List Int}
theorem MidP.grown (m : MidP w w3 a len cap au cu l) (hc : CurAt w4 w.heap.size a len cap) (hg : w3.grownBy w4 (some w.heap.size)) : MidP w w4 a len cap au cu l :=
  ⟨hc, m.dat.grown hg, m.own.kept hg (.inr fun e => by have := (m.own.lt _ e).1; omega), m.few, below_of m.bel hg, Nat.le_trans m.lt hg.size⟩
theorem MidP.below (m : MidP w w3 a len cap au cu l) (hb : Below w3.heap.size w3 w4) : MidP w w4 a len cap au cu l :=
  m.grown (m.cur.other (hb.block _ (by have := m.lt; omega))) (below_grown hb _)
theorem MidP.drew (m : MidP w w3 a len cap au cu l) : MidP w w3.drew a len cap au cu l :=
  m.grown m.cur ⟨rfl, rfl, rfl, Nat.le_refl _, fun _ _ _ => rfl⟩
theorem MidP.alloc (m : MidP w w3 a len cap au cu l) (c : Array Value) (t : TypeId) : MidP w (w3.alloc (.cells c t)) a len cap au cu l :=
  m.below (Joins.below_alloc1 _ _)
theorem MidP.ints (m : MidP w w3 a len cap au cu l) : Ints w3 au l := own_ints' rfl m.own
theorem MidP.apart (m : MidP w w3 a len cap au cu l) : ∀ x, au = some x → x.block ≠ w.heap.size := fun x e h => by
  subst e
  have := (m.own.lt x.block (by simp [Value.ownBlock])).1
  omega
theorem midP_of {w1 : World} {u : Value} (hd : DataAt w1 w.heap.size a len) (hb : Below w.heap.size w w1) (hc1 : CurAt w1 w.heap.size a len cap)
    (ho : w2.ownsRow w1.heap.size 3 1 u l.length (l.map (Value.int .i64))) (hl : l.length ≤ 3) (hc : CurAt w2 w.heap.size a len cap) (hg : w1.grownBy w2 (some w.heap.size)) :
    ∃ au cu, u = .slice au l.length cu ∧ MidP w w2 a len cap au cu l := by
  obtain ⟨au, cu, rfl⟩ := own_slice' rfl ho
  have h1 := hc1.lt
  have h2 := hg.size
  exact ⟨au, cu, rfl, hc, hd.grown hg, ownsRow_lower ho (by omega), by omega, below_of hb hg, by omega⟩
end
theorem row_grown {w w' : World} {B C n : Nat} {v : Value} {xs : List Value} (h : w.ownsRow B 3 1 v n xs) (hg : w.grownBy w' (some C)) (hB : C < B) : w'.ownsRow B 3 1 v n xs :=
  h.kept hg (.inr fun e => by have := (h.lt _ e).1; omega)
theorem lit4_cnt (i : Nat) (h : i < 4) : ∃ z : Int, -9223372036854775808 ≤ z ∧ z ≤ 9223372036854775807 ∧ (#[.int .i64 (-1), .int .i64 1000, .int .i64 1001, .int .i64 (-9223372036854775808)] : Array Value)[i]? = some (.int .i64 z) := by
  match i, h with
  | 0, _ => exact ⟨-1, by decide, by decide, rfl⟩
  | 1, _ => exact ⟨1000, by decide, by decide, rfl⟩
  | 2, _ => exact ⟨1001, by decide, by decide, rfl⟩
  | 3, _ => exact ⟨-9223372036854775808, by decide, by decide, rfl⟩
theorem ccE_short (l : List Int) (s k : Int) : (ccE l s k).length ≤ 1048576 := by
  unfold ccE
  split
  · next h =>
    have hg : grpB l = true := by unfold ccB at h; rw [Bool.and_eq_true] at h; exact (isS_true h.1).1
    have he := expN_le hg
    rw [rowZ_len]
    omega
  · simp
/-- Two lists of counts, as they are handed out. -/
def DrawnPQ (w : World) (e : Ending) (w' : World) : Prop := ∃ (u v : Value) (p q : List Int), e = .returned (.tuple #[u, v]) ∧ w'.ownsRow w.heap.size 3 1 u p.length (p.map (Value.int .i64)) ∧ w'.ownsRow w.heap.size 3 1 v q.length (q.map (Value.int .i64)) ∧ p.length ≤ 1048576 ∧ q.length ≤ 1048576 ∧ Below w.heap.size w w'
set_option maxHeartbeats 4000000 in
theorem l7Pair_any (w : World) (a : Option Addr) (len cap : Nat) (hlen : len ≤ 1048576) (hd : CodeIn w a len) :
    Calls Tryz.prog 58 #[.slice a len cap] w (DrawnPQ w) := by
  have HCI := Lib.hid hd
  have HN := Lib.hid (new_any w a len cap hlen hd)
  clear hd
  go_enter Tryz.func58, Tryz.ntmps58
  go_upto_region 4 with (first
    | (go_at_call 81; refine (l3Set_any _ _ a len cap l au l.length cu rfl (by have := M3.out.few; omega) M3.out.ints hlen M3.out.cur M3.out.dat).mono ?_; rintro e w4 ⟨x, rfl, hx0, hx1, hcur, hg⟩; have M4 := Lib.hid (M3.out.grown hcur hg); have g4 := hg.cell g3 (by have := G2.out; simp; omega); have H4 : Hid (w2.heap.size + 1 ≤ w4.heap.size) := Lib.hid (by have := hg.size; simpa using this); clear hcur hg)
    | (go_at_call 80; refine (l2Draw_any _ _ a len cap 12 hlen HC1.out HD1.out).mono ?_; rintro e w2 ⟨u, l, rfl, ho, hl, hcur, hg⟩; obtain ⟨au, cu, rfl, m2⟩ := midP_of HD1.out HB1.out HC1.out ho hl hcur hg; have M2 := Lib.hid m2; clear ho hl hcur hg m2; have M3 := Lib.hid (M2.out.alloc #[.slice au l.length cu] 26); have g3 := newC w2 (.slice au l.length cu) 26 (n := w2.heap.size) rfl; have G2 := Lib.hid M2.out.lt)
    | (go_at_call 65; refine HN.out.mono ?_; rintro e w1 ⟨rfl, hcur, hda, hbel⟩; have HC1 := Lib.hid hcur; have HD1 := Lib.hid hda; have HB1 := Lib.hid hbel; clear hcur hda hbel))
  have F4 := Lib.hid (l2Element_any _ _ a len cap l au l.length cu rfl (by have := M4.out.few; omega) M4.out.drew.ints M4.out.apart hlen M4.out.drew.cur M4.out.drew.dat)
  go_region_held3 (fun W => W.cell? ⟨w2.heap.size, 0, none⟩ = some (.slice au l.length cu)) (first | exact g6 | exact g5 | exact g4)
    (first
    | (go_at_call 28; refine (sCC _ au l l.length cu x y rfl (by have := M5.out.few; omega) M5.out.ints).mono ?_; rintro e w6 ⟨v, rfl, ho, hb⟩; have M6 := Lib.hid (M5.out.below hb); have O6 := Lib.hid ho; have g6 := keepD hb g5; have H6 : Hid (w5.heap.size ≤ w6.heap.size) := Lib.hid hb.size; clear ho hb)
    | (go_at_call 67; refine F4.out.mono ?_; rintro e w5 ⟨y, rfl, hy0, hy1, hcur, hg⟩; have M5 := Lib.hid (M4.out.drew.grown hcur hg); have g5 := hg.cell g4 (by have := G2.out; simp; omega); have H5 : Hid (w4.heap.size ≤ w5.heap.size) := Lib.hid (by have := hg.size; simpa using this); clear hcur hg))
  all_goals
    have o6 := O6.out
    have hPL := ccE_short l x y
    clear O6 F4
    generalize ccE l x y = P at o6 hPL
    obtain ⟨ap, cp, rfl⟩ := own_slice' rfl o6
    have O6 := Lib.hid o6
    have HB6 : Hid (w.heap.size < w5.heap.size) := Lib.hid (by have := H5.out; have := H4.out; have := G2.out; omega)
    clear o6
    go_wp2
    have F6 := Lib.hid (l3Set_any _ _ a len cap l au l.length cu rfl (by have := M6.out.few; omega) M6.out.drew.ints hlen M6.out.drew.cur M6.out.drew.dat)
    go_region_held3 (fun W => W.cell? ⟨w2.heap.size, 0, none⟩ = some (.slice au l.length cu)) (first | exact g9 | exact g8 | exact g7 | exact g6)
      (first
      | (go_at_call 28; refine (sCC _ au l l.length cu s y2 rfl (by have := M8.out.few; omega) M8.out.ints).mono ?_; rintro e w9 ⟨v, rfl, ho, hb⟩; have M9 := Lib.hid (M8.out.below hb); have O9 := Lib.hid (owns_below O8.out hb); have Q9 := Lib.hid ho; have g9 := keepD hb g8; clear ho hb)
      | (go_at_call 67; refine (l2Element_any _ _ a len cap l au l.length cu rfl (by have := M7.out.few; omega) M7.out.ints M7.out.apart hlen M7.out.cur M7.out.dat).mono ?_; rintro e w8 ⟨y2, rfl, hz0, hz1, hcur, hg⟩; have M8 := Lib.hid (M7.out.grown hcur hg); have O8 := Lib.hid (row_grown O7.out hg HB6.out); have g8 := hg.cell g7 (by have := G2.out; simp; omega); have H8 : Hid (w6.heap.size ≤ w8.heap.size) := Lib.hid (Nat.le_trans H7.out hg.size); clear hcur hg)
      | (go_at_call 81; refine F6.out.mono ?_; rintro e w7 ⟨s, rfl, hs0, hs1, hcur, hg⟩; have M7 := Lib.hid (M6.out.drew.grown hcur hg); have O7 := Lib.hid (row_grown O6.out.drew hg HB6.out); have g7 := hg.cell g6 (by have := G2.out; simp; omega); have H7 : Hid (w6.heap.size ≤ w7.heap.size) := Lib.hid (by have := hg.size; simpa using this); clear hcur hg))
    all_goals
      have q9 := Q9.out
      have hQL := ccE_short l s y2
      clear Q9 F6
      generalize ccE l s y2 = Q at q9 hQL
      obtain ⟨aq, cq, rfl⟩ := own_slice' rfl q9
      have Q9 := Lib.hid q9
      clear q9
      by_cases h0 : 0 < P.length
      · obtain ⟨g, cp', hv, hge, hgl⟩ := own_block O6.out h0
        injection hv with e1 e2 e3
        subst e1 e3
        have h1 : (0 : Int) < (P.length : Int) := by omega
        have hGC : Hid (some g ≠ some w.heap.size) := Lib.hid (by have := HB6.out; simp; omega)
        go_wp2_with fail
        refine (once_any _ _ a len cap 8 hlen M9.out.cur M9.out.dat (by decide) (by decide)).mono ?_
        rintro e w10 ⟨c, rfl, hcur, hg⟩
        have M10 := Lib.hid (M9.out.grown hcur hg)
        have O10 := Lib.hid (O9.out.kept hg (.inr hGC.out))
        have Q10 := Lib.hid (row_grown Q9.out hg (by have := H8.out; have := H6.out; have := HB6.out; omega))
        clear hcur hg
        cases c
        · go_wp2
          refine bodyPost_ret (v := .tuple #[.slice (some ⟨g, 0, none⟩) P.length cp, .slice aq Q.length cq]) (by simp [results, Tryz.results58, go_sem]) rfl ?_
          exact ⟨_, _, P, Q, rfl, ownsRow_lower O10.out (by have := HB6.out; omega), ownsRow_lower Q10.out (by have := H8.out; have := H6.out; have := HB6.out; omega), hPL, hQL, M10.out.bel⟩
        · have M11 := Lib.hid (M10.out.alloc #[.int .i64 (-1), .int .i64 1000, .int .i64 1001, .int .i64 (-9223372036854775808)] 3)
          have O11 := Lib.hid (O10.out.alloc (.cells #[.int .i64 (-1), .int .i64 1000, .int .i64 1001, .int .i64 (-9223372036854775808)] 3))
          have Q11 := Lib.hid (Q10.out.alloc (.cells #[.int .i64 (-1), .int .i64 1000, .int .i64 1001, .int .i64 (-9223372036854775808)] 3))
          have hC10 : w.heap.size < w10.heap.size := M10.out.cur.lt
          have F12 := Lib.hid (pick_any (w10.alloc (.cells #[.int .i64 (-1), .int .i64 1000, .int .i64 1001, .int .i64 (-9223372036854775808)] 3)) w.heap.size a len cap w10.heap.size 4 4 hlen M11.out.cur M11.out.dat (by omega) (by omega) (by omega) (fun i hi => by
            obtain ⟨z, hz0, hz1, hz⟩ := lit4_cnt i hi
            exact ⟨z, hz0, hz1, (World.cell?_alloc_at _ _ _ _ rfl).trans hz⟩))
          go_wp2_with fail
          refine F12.out.mono ?_
          rintro e w12 ⟨z, rfl, hz0, hz1, hcur, hg⟩
          have M12 := Lib.hid (M11.out.grown hcur hg)
          have O12 := Lib.hid (O11.out.kept hg (.inr hGC.out))
          have Q12 := Lib.hid (row_grown Q11.out hg (by have := H8.out; have := H6.out; have := HB6.out; omega))
          have hfr := O12.out.frozenAt 0
          have hcell := O12.out.cellAt 0 (by simpa using h0)
          have e9 : (P.set 0 z).length = P.length := by simp
          have O13 : Hid ((w12.setCell ⟨g, 0, none⟩ (.int .i64 z)).ownsRow w5.heap.size 3 1 (.slice (some ⟨g, 0, none⟩) P.length cp) (P.set 0 z).length ((P.set 0 z).map (Value.int .i64))) := Lib.hid (by
            have h := (O12.out.stored 0 (.int .i64 z)).1
            rw [e9, List.map_set]
            exact h)
          have Q13 := Lib.hid (ownsRow_setCell_below (a := ⟨g, 0, none⟩) Q12.out (by have := H8.out; show g < _; omega) (.int .i64 z))
          have B13 := Lib.hid (below_newset M12.out.bel (b := g) (by have := HB6.out; omega) (.int .i64 z))
          clear hcur hg
          go_wp2
          refine bodyPost_ret (v := .tuple #[.slice (some ⟨g, 0, none⟩) P.length cp, .slice aq Q.length cq]) (by simp [results, Tryz.results58, go_sem]) rfl ?_
          exact ⟨_, _, P.set 0 z, Q, rfl, ownsRow_lower O13.out (by have := HB6.out; omega), ownsRow_lower Q13.out (by have := H8.out; have := H6.out; have := HB6.out; omega), by (rw [e9]; exact hPL), hQL, B13.out⟩
      · have h1 : ¬ (0 : Int) < (P.length : Int) := by omega
        have h2 : (P.length : Int) ≤ 0 := by omega
        go_wp2
        refine bodyPost_ret (v := .tuple #[.slice ap P.length cp, .slice aq Q.length cq]) (by simp [results, Tryz.results58, go_sem]) rfl ?_
        exact ⟨_, _, P, Q, rfl, ownsRow_lower O9.out (by have := HB6.out; omega), ownsRow_lower Q9.out (by have := H8.out; have := H6.out; have := HB6.out; omega), hPL, hQL, M9.out.bel⟩
set_option maxHeartbeats 4000000 in
theorem dAC_any (w : World) (a : Option Addr) (len cap : Nat) (hlen : len ≤ 1048576) (hd : CodeIn w a len) :
    Calls Tryz.prog 24 #[.slice a len cap] w (DrawnPQ w) := by
  have HN := Lib.hid (l7Pair_any w a len cap hlen hd)
  clear hd
  go_enter Tryz.func24, Tryz.ntmps24
  go_wp2_with (go_at_call 58; refine HN.out.mono ?_; rintro e w1 ⟨u, v, p, q, rfl, ho, hq, hp1, hq1, hb⟩; have HO := Lib.hid ho; have HQ := Lib.hid hq; have HB := Lib.hid hb; clear ho hq hb)
  refine bodyPost_ret (v := .tuple #[u, v]) (by simp [results, Tryz.results24, go_sem]) rfl ?_
  exact ⟨u, v, p, q, rfl, HO.out, HQ.out, hp1, hq1, HB.out⟩
set_option maxHeartbeats 4000000 in
theorem dMC_any (w : World) (a : Option Addr) (len cap : Nat) (hlen : len ≤ 1048576) (hd : CodeIn w a len) :
    Calls Tryz.prog 25 #[.slice a len cap] w (DrawnPQ w) := by
  have HN := Lib.hid (l7Pair_any w a len cap hlen hd)
  clear hd
  go_enter Tryz.func25, Tryz.ntmps25
  go_wp2_with (go_at_call 58; refine HN.out.mono ?_; rintro e w1 ⟨u, v, p, q, rfl, ho, hq, hp1, hq1, hb⟩; have HO := Lib.hid ho; have HQ := Lib.hid hq; have HB := Lib.hid hb; clear ho hq hb)
  refine bodyPost_ret (v := .tuple #[u, v]) (by simp [results, Tryz.results25, go_sem]) rfl ?_
  exact ⟨u, v, p, q, rfl, HO.out, HQ.out, hp1, hq1, HB.out⟩
end Go.Proofs.YthlpjiibjlaebaaGreatDoor
