/- Merged: SgsN D5 D6 DSum. -/
import Derived.Test.YtaacofbmbpkeoaaGreatDoorSgSpec
import Derived.Test.YtaacofbmbpkeoaaGreatDoorMGAF
import Derived.Test.YtaacofbmbpkeoaaGreatDoorMGAU
namespace Go.Proofs.YtaacofbmbpkeoaaGreatDoor
open Go.RowKit
theorem clo_fun2 {l : List Int} (hg : grpB l = true) : ∃ C : Nat → Nat, ∀ a, a < 2 ^ 24 → IsClo l a (C a) := by
  obtain ⟨C, hC⟩ := Classical.skolem.1 (fun a : Nat => show ∃ c, a < 2 ^ 24 → IsClo l a c from by
    by_cases h : a < 2 ^ 24
    · obtain ⟨c, hc⟩ := clo_ex hg h
      exact ⟨c, fun _ => hc⟩
    · exact ⟨0, fun h2 => absurd h2 h⟩)
  exact ⟨C, hC⟩
theorem nodup_sub : ∀ (L M : List Nat), L.Nodup → (∀ x ∈ L, x ∈ M) → L.length ≤ M.length
  | [], _, _, _ => Nat.zero_le _
  | a :: r, M, hn, h => by
    have ha := h a (by simp)
    have h1 := nodup_sub r (M.erase a) (List.nodup_cons.1 hn).2 (fun x hx => (List.mem_erase_of_ne (fun e => (List.nodup_cons.1 hn).1 (by rw [← e]; exact hx))).2 (h x (by simp [hx])))
    have h2 := List.length_erase_of_mem ha
    have h3 := List.length_pos_of_mem ha
    simp only [List.length_cons]
    omega
/-- At most so many subgroups. -/
theorem sg_len {l : List Int} {L : List Nat} (h : SgList l L) : L.length ≤ 13824 := by
  cases hg : grpB l with
  | false =>
    obtain rfl : L = [] := by
      apply List.eq_nil_iff_forall_not_mem.2
      intro m hm
      have := ((h.2 m).1 hm).1
      rw [hg] at this
      cases this
    simp
  | true =>
    obtain ⟨C, hC⟩ := clo_fun2 hg
    have hP := (ords_grp hg).prod
    have h1 := nodup_sub L ((List.range 13824).map fun i => sumN l (sumN l (C (2 ^ (i / 576))) (C (2 ^ (i / 24 % 24)))) (C (2 ^ (i % 24)))) (h.1.imp fun h => Nat.ne_of_lt h) (fun s hs => by
      obtain ⟨x, y, z, a, b, c, hx, hy, hz, ha, hb, hc, he⟩ := sum3 hg ((h.2 s).1 hs).2
      have x24 : x < 24 := by omega
      have y24 : y < 24 := by omega
      have z24 : z < 24 := by omega
      have p24 : ∀ k, k < 24 → 2 ^ k < 2 ^ 24 := fun k hk => Nat.pow_lt_pow_right (by decide) hk
      refine List.mem_map.2 ⟨x * 576 + y * 24 + z, List.mem_range.2 (by omega), ?_⟩
      have e1 : (x * 576 + y * 24 + z) / 576 = x := by omega
      have e2 : (x * 576 + y * 24 + z) / 24 % 24 = y := by omega
      have e3 : (x * 576 + y * 24 + z) % 24 = z := by omega
      show sumN l (sumN l (C (2 ^ ((x * 576 + y * 24 + z) / 576))) (C (2 ^ ((x * 576 + y * 24 + z) / 24 % 24)))) (C (2 ^ ((x * 576 + y * 24 + z) % 24))) = s
      rw [e1, e2, e3, (hC _ (p24 x x24)).one ha, (hC _ (p24 y y24)).one hb, (hC _ (p24 z z24)).one hc, he])
    rwa [List.length_map, List.length_range] at h1
theorem sg_ex (l : List Int) : ∃ L, SgList l L := by
  refine ⟨(List.range (2 ^ (prodI l).toNat)).filter fun m => @decide (grpB l = true ∧ IsSg l m) (Classical.propDecidable _), List.pairwise_lt_range.filter _, fun m => ?_⟩
  rw [List.mem_filter, List.mem_range]
  simp only [decide_eq_true_eq]
  exact ⟨fun h => h.2, fun h => ⟨h.2.1, h⟩⟩
end Go.Proofs.YtaacofbmbpkeoaaGreatDoor

namespace Go.Proofs.YtaacofbmbpkeoaaGreatDoor
open Go.RowKit
set_option maxRecDepth 1000000
/-- The cursor in block C, the result's variable in block w.heap.size, the drawn group's row above. -/
structure MidC (w w3 : World) (C : Nat) (a : Option Addr) (len cap : Nat) (au : Option Addr) (cu : Nat) (l : List Int) : Prop where
  cur : CurAt w3 C a len cap
  dat : DataAt w3 C a len
  res : w3.heap[w.heap.size]? = some (.cells #[.slice none 0 0] 26 (0, 0))
  own : w3.ownsRow (w.heap.size + 1) 3 1 (.slice au l.length cu) l.length (l.map (Value.int .i64))
  few : l.length ≤ 4
  gr : w.grownBy w3 (some C)
  lt : w.heap.size + 1 ≤ w3.heap.size
  cw : C < w.heap.size
section
variable {w w3 w4 : World} {C : Nat} {a : Option Addr} {len cap : Nat} {au : Option Addr} {cu : Nat} {l : List Int}
theorem MidC.grown (m : MidC w w3 C a len cap au cu l) (hc : CurAt w4 C a len cap) (hg : w3.grownBy w4 (some C)) : MidC w w4 C a len cap au cu l :=
  have hlt := m.lt
  have hcw := m.cw
  ⟨hc, m.dat.grown hg, (hg.block _ (by omega) (by simp; omega)).trans m.res, m.own.kept hg (.inr fun e => by have := (m.own.lt _ e).1; omega), m.few, grownC_trans m.gr hg, Nat.le_trans m.lt hg.size, m.cw⟩
theorem MidC.below (m : MidC w w3 C a len cap au cu l) (hb : Below w3.heap.size w3 w4) : MidC w w4 C a len cap au cu l :=
  m.grown (m.cur.other (hb.block _ (by have := m.lt; have := m.cw; omega))) (below_grown hb _)
theorem MidC.drew (m : MidC w w3 C a len cap au cu l) : MidC w w3.drew C a len cap au cu l :=
  m.grown m.cur ⟨rfl, rfl, rfl, Nat.le_refl _, fun _ _ _ => rfl⟩
theorem MidC.alloc (m : MidC w w3 C a len cap au cu l) (c : Array Value) (t : TypeId) : MidC w (w3.alloc (.cells c t)) C a len cap au cu l :=
  m.below (Joins.below_alloc1 _ _)
theorem MidC.ints (m : MidC w w3 C a len cap au cu l) : Ints w3 au l := own_ints' rfl m.own
theorem MidC.apart (m : MidC w w3 C a len cap au cu l) : ∀ x, au = some x → x.block ≠ C := fun x e h => by
  subst e
  have h1 := (m.own.lt x.block (by simp [Value.ownBlock])).1
  have h2 := m.cw
  omega
theorem MidC.cells (m : MidC w w3 C a len cap au cu l) : w3.cell? ⟨w.heap.size, 0, none⟩ = some (.slice none 0 0) ∧ w3.frozen? ⟨w.heap.size, 0, none⟩ = false := one_cell m.res
theorem MidC.finish (m : MidC w w3 C a len cap au cu l) :
    (w3.setCell ⟨w.heap.size, 0, none⟩ (.slice au l.length cu)).ownsRow w.heap.size 3 1 (.slice au l.length cu) l.length (l.map (Value.int .i64)) ∧ CurAt (w3.setCell ⟨w.heap.size, 0, none⟩ (.slice au l.length cu)) C a len cap ∧ w.grownBy (w3.setCell ⟨w.heap.size, 0, none⟩ (.slice au l.length cu)) (some C) :=
  have hcw := m.cw
  ⟨ownsRow_lower (ownsRow_setCell_below (a := ⟨w.heap.size, 0, none⟩) m.own (by show w.heap.size < _; omega) _) (by omega), m.cur.other (heap_setCell_other _ _ _ _ (fun e => by simp at e; omega)), grown_newset m.gr (Nat.le_refl _) _⟩
end
/-- What a function that draws a group with a number leaves. -/
def DrawnC (w : World) (C : Nat) (a : Option Addr) (len cap : Nat) (e : Ending) (w' : World) : Prop :=
  ∃ (u : Value) (l : List Int) (x : Int), e = .returned (.tuple #[.agg #[u], .int .i64 x]) ∧ -9223372036854775808 ≤ x ∧ x ≤ 9223372036854775807 ∧ w'.ownsRow w.heap.size 3 1 u l.length (l.map (Value.int .i64)) ∧ l.length ≤ 4 ∧ CurAt w' C a len cap ∧ w.grownBy w' (some C)
theorem midC_of {w w2 : World} {C : Nat} {a : Option Addr} {len cap : Nat} {u : Value} {l : List Int} (hC : C < w.heap.size) (hd : DataAt w C a len)
    (ho : w2.ownsRow (w.alloc nilG).heap.size 3 1 u l.length (l.map (Value.int .i64))) (hl : l.length ≤ 4) (hc : CurAt w2 C a len cap) (hg : (w.alloc nilG).grownBy w2 (some C)) :
    ∃ au cu, u = .slice au l.length cu ∧ MidC w w2 C a len cap au cu l := by
  obtain ⟨au, cu, rfl⟩ := own_slice' rfl ho
  have e : (w.alloc nilG).heap.size = w.heap.size + 1 := by simp
  rw [e] at ho
  have h0 : w.grownBy w2 (some C) := grownC_trans (World.grownBy_alloc w nilG (some C)) hg
  refine ⟨au, cu, rfl, hc, hd.grown h0, ?_, ho, hl, h0, by have := hg.size; omega, hC⟩
  rw [hg.block _ (by omega) (by simp; omega)]
  exact heap_alloc_new w nilG
theorem cell_other {w : World} {g b k : Nat} {v : Value} (h : g ≠ b) : (w.setCell ⟨b, 0, none⟩ v).cell? ⟨g, k, none⟩ = w.cell? ⟨g, k, none⟩ := by
  unfold World.cell?
  rw [heap_setCell_other w ⟨b, 0, none⟩ g v (fun e => h (by simpa using e))]
theorem sg_pos {l : List Int} (hg : grpB l = true) {L : List Nat} (h : SgList l L) : 0 < L.length := by
  have h1 := sg_one hg
  have hs : IsSg l 1 := ⟨h1.lt, by
    refine ⟨h1.keeps.1, fun x y hx hy => ?_⟩
    have ex : x = 0 := by
      rcases Nat.eq_zero_or_pos x with h0 | h0
      · exact h0
      · rw [Nat.testBit_one_eq_true_iff_self_eq_zero] at hx; exact hx
    have ey : y = 0 := by
      rcases Nat.eq_zero_or_pos y with h0 | h0
      · exact h0
      · rw [Nat.testBit_one_eq_true_iff_self_eq_zero] at hy; exact hy
    subst ex ey
    have hP := (ords_grp hg).prod
    rw [show (((0 : Nat) : Nat) : Int) = 0 from rfl, addN_zero (ords_grp hg) (by omega) (by omega)]
    simp⟩
  exact List.length_pos_of_mem ((h.2 1).2 ⟨hg, hs⟩)
set_option maxHeartbeats 4000000 in
theorem l5Group_any (w : World) (C : Nat) (a : Option Addr) (len cap : Nat) (hlen : len ≤ 1048576) (hc : CurAt w C a len cap) (hd : DataAt w C a len) :
    Calls Tryz.prog 96 #[.pointer (some ⟨C, 0, none⟩)] w (DrawnC w C a len cap) := by
  have HC := Lib.hid hc
  have HD := Lib.hid hd
  have hCw : C < w.heap.size := hc.lt
  have HG0 := Lib.hid (World.grownBy_alloc w nilG (some C))
  have HCA := Lib.hid (HC.out.other (heap_alloc_old w nilG hCw))
  have HDA := Lib.hid (HD.out.grown HG0.out)
  have HDR := Lib.hid (l2Any_any (w.alloc nilG) C a len cap hlen HCA.out HDA.out)
  clear hc hd
  go_enter Tryz.func96, Tryz.ntmps96
  go_upto_region 3 with (first
    | (go_at_call 108; refine (sSubs _ _ _ _ _ L HSL.out rfl (by have := M3.out.few; omega) M3.out.ints).mono ?_; rintro e w4 ⟨v, rfl, hrow, hb⟩; obtain ⟨gl, lc, rfl, hgl, hcl⟩ := hrow.cell; obtain ⟨m, hmm⟩ : ∃ m, L.length = m := ⟨_, rfl⟩; have HML := Lib.hid hmm; rw [hmm] at hcl ⊢; have HCL := Lib.hid hcl; have HLT := Lib.hid hrow.2.2.2; have HGL := Lib.hid (hrow.2.1.lt gl rfl).1; have M4 := Lib.hid (M3.out.below hb); have g4 := keepC hb (by simp) g3; clear hrow hb hcl hgl hmm)
    | (go_at_call 64; refine HDR.out.mono ?_; rintro e w2 ⟨u, l, rfl, ho, hl, hcur, hg⟩; obtain ⟨au, cu, rfl, m2⟩ := midC_of hCw HD.out ho hl hcur hg; have M2 := Lib.hid m2; clear ho hl hcur hg m2; have M3 := Lib.hid (M2.out.alloc #[.slice au l.length cu] 26); have g3 := newC w2 (.slice au l.length cu) 26 (n := w2.heap.size) rfl; have G2 := Lib.hid M2.out.lt; obtain ⟨L, hsl⟩ := sg_ex l; have HSL := Lib.hid hsl; clear hsl))
  cases hgb : grpB l with
  | false =>
    try rw [hgb]
    have F := Lib.hid (l3Set_any _ C a len cap l au l.length cu rfl (by have := M4.out.few; omega) M4.out.drew.ints hlen M4.out.drew.cur M4.out.drew.dat)
    go_wp2
    go_region_with (go_at_call 65; refine F.out.mono ?_; rintro e w6 ⟨x, rfl, hx0, hx1, hcur, hg⟩; have M6 := Lib.hid (M4.out.drew.grown hcur hg); have g6 := hg.cell g4 (by have := G2.out; simp; omega); have c6 := M6.out.cells.1; have f6 := M6.out.cells.2; clear hcur hg)
    all_goals
      have c7 := World.cell?_setCell_same w6 ⟨w.heap.size, 0, none⟩ (.slice au l.length cu) c6
      go_wp2
      refine bodyPost_ret (v := .tuple #[.agg #[.slice au l.length cu], .int .i64 x]) (by simp [results, Tryz.results96, go_sem, c7]) rfl ?_
      exact ⟨_, l, x, rfl, hx0, hx1, M6.out.finish.1, M6.out.few, M6.out.finish.2⟩
  | true =>
    try rw [hgb]
    have hL0 : 0 < m := by have := sg_pos hgb HSL.out; rw [HML.out] at this; exact this
    go_wp2_with (fail)
    refine (once_any _ C a len cap 5 hlen M4.out.cur M4.out.dat (by decide) (by decide)).mono ?_
    rintro e w5 ⟨b, rfl, hcur, hg⟩
    have M5 := Lib.hid (M4.out.grown hcur hg)
    have g5 := hg.cell g4 (by have := G2.out; simp; omega)
    have HG5 := Lib.hid hg
    clear hcur hg
    cases b with
    | true =>
      have F := Lib.hid (l3Set_any _ C a len cap l au l.length cu rfl (by have := M5.out.few; omega) M5.out.drew.ints hlen M5.out.drew.cur M5.out.drew.dat)
      go_wp2
      go_region_with (go_at_call 65; refine F.out.mono ?_; rintro e w6 ⟨x, rfl, hx0, hx1, hcur, hg⟩; have M6 := Lib.hid (M5.out.drew.grown hcur hg); have g6 := hg.cell g5 (by have := G2.out; simp; omega); have c6 := M6.out.cells.1; have f6 := M6.out.cells.2; clear hcur hg)
      all_goals
        have c7 := World.cell?_setCell_same w6 ⟨w.heap.size, 0, none⟩ (.slice au l.length cu) c6
        go_wp2
        refine bodyPost_ret (v := .tuple #[.agg #[.slice au l.length cu], .int .i64 x]) (by simp [results, Tryz.results96, go_sem, c7]) rfl ?_
        exact ⟨_, l, x, rfl, hx0, hx1, M6.out.finish.1, M6.out.few, M6.out.finish.2⟩
    | false =>
      have F := Lib.hid (below_any _ C a len cap (m : Int) hlen M5.out.drew.cur M5.out.drew.dat (by omega))
      go_wp2
      go_region_with (go_at_call 90; refine F.out.mono ?_; rintro e w6 ⟨r, rfl, hr0, hr1, hcur, hg⟩; obtain ⟨k, rfl⟩ : ∃ k : Nat, r = (k : Int) := ⟨r.toNat, by omega⟩; have hkm : k < m := (by omega); have hne : gl ≠ C := (by have h1 := HGL.out; have h2 := G2.out; first | omega | (simp at h1; omega)); have r6 := hg.cell (HG5.out.cell (HCL.out k hkm) (by simpa using hne)) (by simpa using hne); obtain ⟨xv, hxv⟩ : ∃ xv, L.getD k 0 = xv := ⟨_, rfl⟩; have hx24 : xv < 16777216 := (by rw [← hxv]; exact HLT.out _ (getD_mem (by rw [HML.out]; exact hkm))); rw [hxv] at r6; clear hxv; have hne2 : gl ≠ w.heap.size := (by have h1 := HGL.out; have h2 := G2.out; first | omega | (simp at h1; omega)); have r7 := (cell_other (v := .slice au l.length cu) hne2).trans r6; have M6 := Lib.hid (M5.out.drew.grown hcur hg); have g6 := hg.cell g5 (by have := G2.out; first | (simp; done) | (simp; omega)); have c6 := M6.out.cells.1; have f6 := M6.out.cells.2; clear hcur hg)
      all_goals
        have c7 := World.cell?_setCell_same w6 ⟨w.heap.size, 0, none⟩ (.slice au l.length cu) c6
        go_wp2
        refine bodyPost_ret (v := .tuple #[.agg #[.slice au l.length cu], .int .i64 (xv : Nat)]) (by simp [results, Tryz.results96, go_sem, c7]) rfl ?_
        exact ⟨_, l, _, rfl, by omega, by omega, M6.out.finish.1, M6.out.few, M6.out.finish.2⟩
end Go.Proofs.YtaacofbmbpkeoaaGreatDoor

namespace Go.Proofs.YtaacofbmbpkeoaaGreatDoor
open Go.RowKit
set_option maxRecDepth 1000000
set_option maxHeartbeats 4000000 in
theorem l6Set_any (w : World) (C : Nat) (a : Option Addr) (len cap : Nat) (hlen : len ≤ 1048576) (hc : CurAt w C a len cap) (hd : DataAt w C a len) :
    Calls Tryz.prog 72 #[.pointer (some ⟨C, 0, none⟩)] w (DrawnC w C a len cap) := by
  have HC := Lib.hid hc
  have HD := Lib.hid hd
  have hCw : C < w.heap.size := hc.lt
  have HG0 := Lib.hid (World.grownBy_alloc w nilG (some C))
  have HCA := Lib.hid (HC.out.other (heap_alloc_old w nilG hCw))
  have HDA := Lib.hid (HD.out.grown HG0.out)
  have HDR := Lib.hid (l5Group_any (w.alloc nilG) C a len cap hlen HCA.out HDA.out)
  clear hc hd
  go_enter Tryz.func72, Tryz.ntmps72
  go_upto_region 3 with (first
    | (go_at_call 65; refine (l3Set_any _ C a len cap l au l.length cu rfl (by have := M3.out.few; omega) M3.out.ints hlen M3.out.cur M3.out.dat).mono ?_; rintro e w4 ⟨y, rfl, hy0, hy1, hcur, hg⟩; have M4 := Lib.hid (M3.out.grown hcur hg); have g4 := hg.cell g3 (by have := G2.out; simp; omega); clear hcur hg)
    | (go_at_call 96; refine HDR.out.mono ?_; rintro e w2 ⟨u, l, x, rfl, hx0, hx1, ho, hl, hcur, hg⟩; obtain ⟨au, cu, rfl, m2⟩ := midC_of hCw HD.out ho hl hcur hg; have M2 := Lib.hid m2; clear ho hl hcur hg m2; have M3 := Lib.hid (M2.out.alloc #[.slice au l.length cu] 26); have g3 := newC w2 (.slice au l.length cu) 26 (n := w2.heap.size) rfl; have G2 := Lib.hid M2.out.lt))
  cases hs : isS l y with
  | false =>
    go_wp2_with (go_at_call 42; refine (sIsSet _ au l l.length cu y rfl (by have := M4.out.few; omega) M4.out.ints).mono ?_; rw [hs]; rintro e w5 ⟨rfl, hb⟩; have M5 := Lib.hid (M4.out.below hb); have g5 := keepC hb (World.block_lt_of_cell? w4 _ g4) g4; have c5 := M5.out.cells.1; have f5 := M5.out.cells.2; clear hb)
    have cz := World.cell?_setCell_same w5 ⟨w.heap.size, 0, none⟩ (.slice au l.length cu) c5
    try go_wp2
    refine bodyPost_ret (v := .tuple #[.agg #[.slice au l.length cu], .int .i64 y]) (by simp [results, Tryz.results72, go_sem, cz]) rfl ?_
    exact ⟨_, l, _, rfl, hy0, hy1, M5.out.finish.1, M5.out.few, M5.out.finish.2⟩
  | true =>
    cases hh : sgB l x with
    | false =>
      go_wp2_with (first
        | (go_at_call 97; refine (sIsSub _ au l l.length cu x rfl (by have := M5.out.few; omega) M5.out.ints).mono ?_; rw [hh]; rintro e w6 ⟨rfl, hb⟩; have M6 := Lib.hid (M5.out.below hb); have g6 := keepC hb (World.block_lt_of_cell? w5 _ g5) g5; have c6 := M6.out.cells.1; have f6 := M6.out.cells.2; clear hb)
        | (go_at_call 42; refine (sIsSet _ au l l.length cu y rfl (by have := M4.out.few; omega) M4.out.ints).mono ?_; rw [hs]; rintro e w5 ⟨rfl, hb⟩; have M5 := Lib.hid (M4.out.below hb); have g5 := keepC hb (World.block_lt_of_cell? w4 _ g4) g4; have c5 := M5.out.cells.1; have f5 := M5.out.cells.2; clear hb))
      have cz := World.cell?_setCell_same w6 ⟨w.heap.size, 0, none⟩ (.slice au l.length cu) c6
      try go_wp2
      refine bodyPost_ret (v := .tuple #[.agg #[.slice au l.length cu], .int .i64 y]) (by simp [results, Tryz.results72, go_sem, cz]) rfl ?_
      exact ⟨_, l, _, rfl, hy0, hy1, M6.out.finish.1, M6.out.few, M6.out.finish.2⟩
    | true =>
      go_wp2_with (first
        | (go_at_call 97; refine (sIsSub _ au l l.length cu x rfl (by have := M5.out.few; omega) M5.out.ints).mono ?_; rw [hh]; rintro e w6 ⟨rfl, hb⟩; have M6 := Lib.hid (M5.out.below hb); have g6 := keepC hb (World.block_lt_of_cell? w5 _ g5) g5; have c6 := M6.out.cells.1; have f6 := M6.out.cells.2; clear hb)
        | (go_at_call 42; refine (sIsSet _ au l l.length cu y rfl (by have := M4.out.few; omega) M4.out.ints).mono ?_; rw [hs]; rintro e w5 ⟨rfl, hb⟩; have M5 := Lib.hid (M4.out.below hb); have g5 := keepC hb (World.block_lt_of_cell? w4 _ g4) g4; have c5 := M5.out.cells.1; have f5 := M5.out.cells.2; clear hb))
      refine (once_any _ C a len cap 2 hlen M6.out.cur M6.out.dat (by decide) (by decide)).mono ?_
      rintro e w7 ⟨b, rfl, hcur, hg⟩
      have M7 := Lib.hid (M6.out.grown hcur hg)
      have g7 := hg.cell g6 (by have := G2.out; simp; omega)
      have c7 := M7.out.cells.1
      have f7 := M7.out.cells.2
      clear hcur hg
      cases b with
      | false =>
        have cz := World.cell?_setCell_same w7 ⟨w.heap.size, 0, none⟩ (.slice au l.length cu) c7
        try go_wp2
        refine bodyPost_ret (v := .tuple #[.agg #[.slice au l.length cu], .int .i64 y]) (by simp [results, Tryz.results72, go_sem, cz]) rfl ?_
        exact ⟨_, l, _, rfl, hy0, hy1, M7.out.finish.1, M7.out.few, M7.out.finish.2⟩
      | true =>
        obtain ⟨hgg, yn, rfl, _, hy24⟩ := isS_true hs
        obtain ⟨_, xn, rfl, _, hx24⟩ := isS_true (show isS l x = true by unfold sgB at hh; exact (Bool.and_eq_true_iff.1 hh).1)
        have hv : sumN l yn xn < 16777216 := sumN24 hgg yn xn
        have F := Lib.hid (sSumL _ au l l.length cu yn xn hy24 hx24 rfl hgg M7.out.drew.ints)
        obtain ⟨V, hV⟩ : ∃ V, sumN l yn xn = V := ⟨_, rfl⟩
        rw [hV] at hv F
        go_wp2
        go_region_with (go_at_call 43; refine F.out.mono ?_; rintro e w8 ⟨rfl, hb⟩; have M8 := Lib.hid (M7.out.drew.below hb); have g8 := keepC hb (World.block_lt_of_cell? _ _ g7) g7; have c8 := M8.out.cells.1; have f8 := M8.out.cells.2; clear hb)
        all_goals
          have cz := World.cell?_setCell_same w8 ⟨w.heap.size, 0, none⟩ (.slice au l.length cu) c8
          try go_wp2
          refine bodyPost_ret (v := .tuple #[.agg #[.slice au l.length cu], .int .i64 (V : Nat)]) (by simp [results, Tryz.results72, go_sem, cz]) rfl ?_
          exact ⟨_, l, _, rfl, by omega, by omega, M8.out.finish.1, M8.out.few, M8.out.finish.2⟩
end Go.Proofs.YtaacofbmbpkeoaaGreatDoor

namespace Go.Proofs.YtaacofbmbpkeoaaGreatDoor
open Go.RowKit
set_option maxRecDepth 1000000
end Go.Proofs.YtaacofbmbpkeoaaGreatDoor
