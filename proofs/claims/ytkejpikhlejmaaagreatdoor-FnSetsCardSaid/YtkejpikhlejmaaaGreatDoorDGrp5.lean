/- The drawing of a group with a list of elements. -/
import Derived.Test.YtkejpikhlejmaaaGreatDoorDGRA
namespace Go.Proofs.YtkejpikhlejmaaaGreatDoor
open Go.RowKit
set_option maxRecDepth 1000000
theorem data_of {w w4 : World} {a : Option Addr} {len : Nat} (hd : CodeIn w a len) (hb : Below w.heap.size w w4) : DataAt w4 (w.heap.size + 1) a len := by
  rcases hd with h | ⟨b, off, ha, hlt, hc⟩
  · exact .inl h
  · exact .inr ⟨b, off, ha, by omega, fun i hi => by
      obtain ⟨x, hx, hcell⟩ := hc i hi
      exact ⟨x, hx, (hb.cell (p := ⟨b, off + i, none⟩) hlt).trans hcell⟩⟩
theorem MidG.grown2 {w w3 w4 : World} {a : Option Addr} {len cap : Nat} {au : Option Addr} {cu : Nat} {l : List Int} (m : MidG w w3 a len cap au cu l) (hd : CodeIn w a len) {row : Option Nat} (hg : w3.grownBy w4 row) (N : Nat) (hN : w.heap.size + 2 ≤ N) (hrow : ∀ k, row = some k → N ≤ k) (hown : ∀ k, (Value.slice au l.length cu).ownBlock = some k → k < N) : MidG w w4 a len cap au cu l :=
  have hlt := m.lt
  have hb := m.bel.grown hg (by omega) (fun k hk => by have := hrow k hk; omega)
  ⟨m.cur.other (hg.block _ (by omega) (fun e => by have := hrow _ e.symm; omega)), data_of hd hb, (hg.block _ (by omega) (fun e => by have := hrow _ e.symm; omega)).trans m.res, m.own.kept hg (by
    cases hv : (Value.slice au l.length cu).ownBlock with
    | none => exact .inl rfl
    | some k => exact .inr fun e => by have h1 := hrow k e.symm; have h2 := hown k hv; omega), m.few, hb, Nat.le_trans m.lt hg.size⟩
set_option maxHeartbeats 4000000 in
theorem dSetOf_any (w : World) (a : Option Addr) (len cap : Nat) (hlen : len ≤ 1048576) (hd : CodeIn w a len) :
    Calls Tryz.prog 25 #[.slice a len cap] w fun e w' => ∃ (u : Value) (l : List Int) (v : Value) (p : List Int), e = .returned (.tuple #[.agg #[u], v]) ∧ w'.ownsRow w.heap.size 3 1 v p.length (p.map (Value.int .i64)) ∧ p.length ≤ 4 ∧ DGrp w u l w' := by
  obtain ⟨i0, hi0, hz0, hz1, hz2⟩ := info_parts intInfo
  have HCI := Lib.hid hd
  have HN := Lib.hid (new_at w a len cap hlen hd)
  clear hd
  go_enter Tryz.func25, Tryz.ntmps25
  go_wp2_with (first
    | (go_at_call 60; refine (below_small _ _ a len cap 5 hlen M4.out.cur M4.out.dat (by omega) (by omega)).mono ?_; rintro e w5 ⟨k, rfl, hk0, hk1, hcur, hg⟩; go_loud (have M5 := Lib.hid (M4.out.grown hcur hg); have g5 := hg.cell g4 (by have := G2.out; simp; omega); have O5 := Lib.hid (O4.out.kept hg (.inr fun e => by have h1 := (O4.out.lt _ e).1; have h2 := G2.out; omega)); clear hcur hg))
    | (go_at_call 52; refine (l2Any_any _ _ a len cap hlen HC1.out HD1.out).mono ?_; rintro e w2 ⟨u, l, rfl, ho, hl, hcur, hg⟩; obtain ⟨au, cu, rfl, m2⟩ := mid_of HD1.out HB1.out HC1.out ho hl hcur hg; have M2 := Lib.hid m2; clear ho hl hcur hg m2; have M3 := Lib.hid (M2.out.alloc #[.slice au l.length cu] 26); have g3 := newC w2 (.slice au l.length cu) 26 (n := w2.heap.size) rfl; have G2 := Lib.hid M2.out.lt; have U2 := Lib.hid (fun k hk => (M2.out.own.lt k hk).2); have M4 := Lib.hid (M3.out.alloc #[] 3); have g4 := (World.cell?_alloc_past (.cells #[] 3) w2.heap.size 0 (w := w2.alloc (.cells #[.slice au l.length cu] 26)) (by simp)).trans g3; have O4 := Lib.hid (ownsRow_lower (base' := w2.heap.size + 1) (World.ownsRow_lit (e := 3) (size := 1) (w2.alloc (.cells #[.slice au l.length cu] 26)) #[] 0 (Nat.le_refl _) (by decide) rfl) (by simp)))
    | (go_at_call 51; refine HN.out.mono ?_; rintro e w1 ⟨rfl, hcur, hda, hbel⟩; have HC1 := Lib.hid hcur; have HD1 := Lib.hid hda; have HB1 := Lib.hid hbel; clear hcur hda hbel))
  have HB := Lib.hid (And.intro M5.out.few G2.out)
  go_loopw [6, 7] (fun v kk wr => ∃ (k : Nat) (p : List Int), kk = .int .i64 k ∧ k + p.length ≤ 4 ∧ wr.ownsRow (w2.heap.size + 1) 3 1 v p.length (p.map (Value.int .i64)) ∧ MidG w wr a len cap au cu l ∧ wr.cell? ⟨w2.heap.size, 0, none⟩ = some (.slice au l.length cu)) (fun _ kk _ => (intOf kk).toNat)
  case atStart => exact ⟨k.toNat, [], by rw [Int.toNat_of_nonneg hk0], by simp; omega, by simpa using O5.out, M5.out, g5⟩
  case round =>
    obtain ⟨k, p, rfl, hkp, ho, hmid, hcell⟩ := hrel
    obtain ⟨ap, cp, rfl⟩ := own_slice' rfl ho
    have HO := Lib.hid ho
    have M := Lib.hid hmid
    clear ho hmid
    by_cases hk : (0 : Int) < (k : Int)
    case neg =>
      obtain rfl : k = 0 := by omega
      have c7 := M.out.cells.1
      have f7 := M.out.cells.2
      have c8 := World.cell?_setCell_same wr ⟨w.heap.size, 0, none⟩ (.slice au l.length cu) c7
      have HF := Lib.hid M.out.finish
      have OP := Lib.hid (ownsRow_lower (base' := w.heap.size) (ownsRow_setCell_below (a := ⟨w.heap.size, 0, none⟩) HO.out (by have := HB.out.2; show w.heap.size < _; omega) (.slice au l.length cu)) (by have := HB.out.2; omega))
      go_wp2
      refine bodyPost_ret (v := .tuple #[.agg #[.slice au l.length cu], .slice ap p.length cp]) (by simp [results, Tryz.results25, go_sem, c8]) rfl ?_
      exact ⟨_, l, .slice ap p.length cp, rfl, p, OP.out, by omega, HF.out.1, M.out.few, HF.out.2⟩
    obtain ⟨t, rfl⟩ : ∃ t, k = t + 1 := ⟨k - 1, by omega⟩
    go_wp2_with (first
      | (at_builtin; refine wpList_append_own _ rfl _ _ 24 rfl (w2.heap.size + 1) 3 i0 (.int .i64 0) 1 8 Tryz.underlying24 hi0 hz0 hz1 hz2 rfl (by decide) _ _ _ rfl O7.out ⟨w6.heap.size, 0, none⟩ 1 1 [.int .i64 x] rfl (by simp) ?c1 ?c2 ?c3 ?c4 ?c5 ?_)
      | (go_at_call 54; refine (l2Element_any _ _ a len cap l au l.length cu rfl (by have := M.out.few; omega) M.out.ints M.out.apart hlen M.out.cur M.out.dat).mono ?_; rintro e w6 ⟨x, rfl, hx0, hx1, hcur, hg⟩; have M6 := Lib.hid (M.out.grown hcur hg); have O6 := Lib.hid (HO.out.kept hg (.inr fun e => by have h1 := (HO.out.lt _ e).1; have h2 := HB.out.2; omega)); have g6 := hg.cell hcell (by have := HB.out.2; simp; omega); clear hcur hg; have M7 := Lib.hid (M6.out.alloc #[.int .i64 x] 3); have O7 := Lib.hid (O6.out.alloc (.cells #[.int .i64 x] 3)); have g7 := keepD (Joins.below_alloc1 w6 (.cells #[.int .i64 x] 3)) g6))
    case c1 =>
      intro j z hz
      match j, hz with
      | 0, hz => simp at hz; subst hz; simp [Addr.add]
    case c2 => intro z hz; simp at hz; subst hz; rfl
    case c3 => unfold maxLen; omega
    case c4 => omega
    case c5 => exact World.block_lt_of_cell? _ _ g7
    intro v' w' hown hgrow _
    obtain ⟨an, n', cn, rfl⟩ := own_form hown
    have ON := Lib.hid hown
    have HGN := Lib.hid hgrow
    clear hown hgrow
    have M8 := Lib.hid (M7.out.grown2 HCI.out HGN.out (w2.heap.size + 1) (by have := HB.out.2; omega) (fun k hk => (HO.out.lt k hk).1) (fun k hk => by have := U2.out k hk; omega))
    have g8 := HGN.out.cell g7 (fun e => by have := (HO.out.lt _ e.symm).1; simp at this; omega)
    clear g7 hcell
    go_wp2
    go_roundw
    case rel => exact ⟨t, p ++ [x], by go_num, by simp; omega, by simpa using ON.out, M8.out, g8⟩
    case measure => simp [intOf] <;> omega
end Go.Proofs.YtkejpikhlejmaaaGreatDoor
