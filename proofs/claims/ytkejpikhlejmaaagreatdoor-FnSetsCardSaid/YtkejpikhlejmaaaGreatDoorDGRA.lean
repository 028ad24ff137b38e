/- Merged: DGrp DGrp2 DText DGrp3. -/
import Derived.Test.YtkejpikhlejmaaaGreatDoorDRAWC
import Derived.Deep.RegionHeld3
import Derived.Test.YtkejpikhlejmaaaGreatDoorDRAWA
import Derived.Test.YtkejpikhlejmaaaGreatDoorFmtS
import Derived.Test.YtkejpikhlejmaaaGreatDoorPARA
namespace Go.Proofs.YtkejpikhlejmaaaGreatDoor
open Go.RowKit
set_option maxRecDepth 1000000
/-- A drawn group, in the results. -/
def DGrp (w : World) (u : Value) (l : List Int) (w' : World) : Prop := w'.ownsRow w.heap.size 3 1 u l.length (l.map (Value.int .i64)) ∧ l.length ≤ 4 ∧ Below w.heap.size w w'
def DrawnGI (w : World) (e : Ending) (w' : World) : Prop := ∃ (u : Value) (l : List Int) (x : Int), e = .returned (.tuple #[.agg #[u], .int .i64 x]) ∧ -9223372036854775808 ≤ x ∧ x ≤ 9223372036854775807 ∧ DGrp w u l w'
set_option maxHeartbeats 4000000 in
theorem dFull_any (w : World) (a : Option Addr) (len cap : Nat) (hlen : len ≤ 1048576) (hd : CodeIn w a len) :
    Calls Tryz.prog 28 #[.slice a len cap] w fun e w' => ∃ (u : Value) (l : List Int), e = .returned (.agg #[u]) ∧ DGrp w u l w' := by
  have HN := Lib.hid (new_at w a len cap hlen hd)
  clear hd
  go_enter Tryz.func28, Tryz.ntmps28
  go_wp2_with (first
    | (go_at_call 52; refine (l2Any_any _ _ a len cap hlen HC1.out HD1.out).mono ?_; rintro e w2 ⟨u, l, rfl, ho, hl, hcur, hg⟩; obtain ⟨au, cu, rfl, m2⟩ := mid_of HD1.out HB1.out HC1.out ho hl hcur hg; have M2 := Lib.hid m2; clear ho hl hcur hg m2; have c2 := M2.out.cells.1; have f2 := M2.out.cells.2)
    | (go_at_call 51; refine HN.out.mono ?_; rintro e w1 ⟨rfl, hcur, hda, hbel⟩; have HC1 := Lib.hid hcur; have HD1 := Lib.hid hda; have HB1 := Lib.hid hbel; clear hcur hda hbel))
  have c3 := World.cell?_setCell_same w2 ⟨w.heap.size, 0, none⟩ (.slice au l.length cu) c2
  go_wp2
  refine bodyPost_ret (v := .agg #[.slice au l.length cu]) (by simp [results, Tryz.results28, go_sem, c3]) rfl ?_
  exact ⟨_, l, rfl, M2.out.finish.1, M2.out.few, M2.out.finish.2⟩
set_option maxHeartbeats 4000000 in
theorem l3One_any (w : World) (a : Option Addr) (len cap : Nat) (hlen : len ≤ 1048576) (hd : CodeIn w a len) :
    Calls Tryz.prog 33 #[.slice a len cap] w (DrawnGI w) := by
  have HN := Lib.hid (new_at w a len cap hlen hd)
  clear hd
  go_enter Tryz.func33, Tryz.ntmps33
  go_wp2_with (first
    | (go_at_call 52; refine (l2Any_any _ _ a len cap hlen HC1.out HD1.out).mono ?_; rintro e w2 ⟨u, l, rfl, ho, hl, hcur, hg⟩; obtain ⟨au, cu, rfl, m2⟩ := mid_of HD1.out HB1.out HC1.out ho hl hcur hg; have M2 := Lib.hid m2; clear ho hl hcur hg m2; have M3 := Lib.hid (M2.out.alloc #[.slice au l.length cu] 26); have g3 := newC w2 (.slice au l.length cu) 26 (n := w2.heap.size) rfl; have G2 := Lib.hid M2.out.lt)
    | (go_at_call 51; refine HN.out.mono ?_; rintro e w1 ⟨rfl, hcur, hda, hbel⟩; have HC1 := Lib.hid hcur; have HD1 := Lib.hid hda; have HB1 := Lib.hid hbel; clear hcur hda hbel))
  have F3 := Lib.hid (l3Set_any _ _ a len cap l au l.length cu rfl (by have := M3.out.few; omega) M3.out.drew.ints hlen M3.out.drew.cur M3.out.drew.dat)
  go_region_with (go_at_call 53; refine F3.out.mono ?_; rintro e w4 ⟨x, rfl, hx0, hx1, hcur, hg⟩; have M4 := Lib.hid (M3.out.drew.grown hcur hg); have g4 := hg.cell g3 (by have := G2.out; simp; omega); have c4 := M4.out.cells.1; have f4 := M4.out.cells.2; clear hcur hg)
  all_goals
    have c5 := World.cell?_setCell_same w4 ⟨w.heap.size, 0, none⟩ (.slice au l.length cu) c4
    go_wp2
    refine bodyPost_ret (v := .tuple #[.agg #[.slice au l.length cu], .int .i64 x]) (by simp [results, Tryz.results33, go_sem, c5]) rfl ?_
    exact ⟨_, l, x, rfl, hx0, hx1, M4.out.finish.1, M4.out.few, M4.out.finish.2⟩
end Go.Proofs.YtkejpikhlejmaaaGreatDoor

namespace Go.Proofs.YtkejpikhlejmaaaGreatDoor
open Go.RowKit
set_option maxRecDepth 1000000
/-- A result's variable, the drawn group in another one. -/
theorem hand_on {w w1 : World} {u : Value} {l : List Int} (hb : Below w.heap.size w w1) (h : w1.ownsRow (w.heap.size + 1) 3 1 u l.length (l.map (Value.int .i64))) :
    (w1.setCell ⟨w.heap.size, 0, none⟩ u).ownsRow w.heap.size 3 1 u l.length (l.map (Value.int .i64)) ∧ Below w.heap.size w (w1.setCell ⟨w.heap.size, 0, none⟩ u) :=
  ⟨ownsRow_lower (ownsRow_setCell_below (a := ⟨w.heap.size, 0, none⟩) h (by show w.heap.size < _; omega) _) (by omega), below_newset hb (Nat.le_refl _) _⟩
theorem one_at (w : World) (a : Option Addr) (len cap : Nat) (hlen : len ≤ 1048576) (hd : CodeIn w a len) :
    Calls Tryz.prog 33 #[.slice a len cap] (w.alloc nilG) fun e w1 => ∃ (u : Value) (l : List Int) (x : Int), e = .returned (.tuple #[.agg #[u], .int .i64 x]) ∧ -9223372036854775808 ≤ x ∧ x ≤ 9223372036854775807 ∧ w1.ownsRow (w.heap.size + 1) 3 1 u l.length (l.map (Value.int .i64)) ∧ l.length ≤ 4 ∧ Below (w.heap.size + 1) (w.alloc nilG) w1 := by
  have h := l3One_any (w.alloc nilG) a len cap hlen (hd.below (Joins.below_alloc1 w nilG))
  have e : (w.alloc nilG).heap.size = w.heap.size + 1 := by simp
  unfold DrawnGI DGrp at h
  rw [e] at h
  exact h
set_option maxHeartbeats 4000000 in
theorem dFmtS_any (w : World) (a : Option Addr) (len cap : Nat) (hlen : len ≤ 1048576) (hd : CodeIn w a len) :
    Calls Tryz.prog 5 #[.slice a len cap] w (DrawnGI w) := by
  have HN := Lib.hid (one_at w a len cap hlen hd)
  have R0 := Lib.hid (heap_alloc_new w nilG)
  clear hd
  go_enter Tryz.func5, Tryz.ntmps5
  go_wp2_with (go_at_call 33; refine HN.out.mono ?_; rintro e w1 ⟨u, l, x, rfl, hx0, hx1, ho, hl, hb⟩; go_loud (obtain ⟨au, cu, rfl⟩ := own_slice' rfl ho; have HO := Lib.hid ho; have HB := Lib.hid hb; have HL := Lib.hid hl; have g1 := newC w1 (.slice au l.length cu) 26 (n := w1.heap.size) rfl; have hs := (show w.heap.size + 1 ≤ w1.heap.size from by have := hb.size; simpa using this); obtain ⟨c1, f1⟩ := one_cell ((hb.block _ (by omega)).trans R0.out); have c2 : (w1.alloc (.cells #[.slice au l.length cu] 26)).cell? ⟨w.heap.size, 0, none⟩ = some (.slice none 0 0) := (World.cell?_alloc_past _ _ _ (by omega)).trans c1; have f2 := (frozen?_alloc_cells w1 #[.slice au l.length cu] 26 ⟨w.heap.size, 0, none⟩).trans f1; clear ho hl hb))
  have c3 := World.cell?_setCell_same (w1.alloc (.cells #[.slice au l.length cu] 26)) ⟨w.heap.size, 0, none⟩ (.slice au l.length cu) c2
  have HE := Lib.hid (hand_on (w := w) (w1 := w1.alloc (.cells #[.slice au l.length cu] 26)) (((Joins.below_alloc1 w nilG).trans (HB.out.mono (by omega))).trans ((Joins.below_alloc1 w1 _).mono (by omega))) (HO.out.alloc _))
  go_wp2
  refine bodyPost_ret (v := .tuple #[.agg #[.slice au l.length cu], .int .i64 x]) (by simp [results, Tryz.results5, go_sem, c3]) rfl ?_
  exact ⟨_, l, x, rfl, hx0, hx1, HE.out.1, HL.out, HE.out.2⟩
end Go.Proofs.YtkejpikhlejmaaaGreatDoor

namespace Go.Proofs.YtkejpikhlejmaaaGreatDoor
open Go.RowKit
set_option maxRecDepth 1000000
/-- Any text of at most so many bytes. -/
def AnyStr (w : World) (C : Nat) (a : Option Addr) (len cap most : Nat) (e : Ending) (w' : World) : Prop :=
  ∃ s : ByteArray, e = .returned (.string s) ∧ s.size ≤ most ∧ CurAt w' C a len cap ∧ w.grownBy w' (some C)
theorem grown_drew1 {a w : World} {row : Option Nat} (h : a.grownBy w row) : a.grownBy w.drew row := ⟨h.os, h.tape, h.output, h.size, h.block⟩
theorem u8_wrap (z : Int) : ∃ u : UInt8, (u.toNat : Int) = IntKind.u8.wrap z := by
  have h : 0 ≤ IntKind.u8.wrap z ∧ IntKind.u8.wrap z < 256 := by
    simp [IntKind.wrap, IntKind.signed, IntKind.bits]; omega
  exact u8_of _ h.1 h.2
set_option maxHeartbeats 2000000 in
theorem pickS_any (w : World) (C : Nat) (a : Option Addr) (len cap L m cp most : Nat) (hlen : len ≤ 1048576) (hc : CurAt w C a len cap) (hd : DataAt w C a len) (hm0 : 0 < m) (hm : m ≤ 1000) (hne : L ≠ C)
    (hcells : ∀ i, i < m → ∃ s : ByteArray, s.size ≤ most ∧ w.cell? ⟨L, i, none⟩ = some (.string s)) :
    Calls Tryz.prog 62 #[.pointer (some ⟨C, 0, none⟩), .slice (some ⟨L, 0, none⟩) m cp] w (AnyStr w C a len cap most) := by
  have F := Lib.hid (below_any w C a len cap m hlen hc hd (by omega))
  have HCE := Lib.hid hcells
  have HNE := Lib.hid hne
  clear hc hd hcells hne
  go_enter Tryz.func62, Tryz.ntmps62
  go_wp2_with fail
  refine F.out.mono ?_
  rintro e w1 ⟨r, rfl, hr0, hr1, hcur, hg⟩
  obtain ⟨q, rfl⟩ : ∃ q : Nat, r = q := ⟨r.toNat, by omega⟩
  obtain ⟨s, hs, hcell⟩ := HCE.out q (by omega)
  have hcell1 : w1.cell? ⟨L, q, none⟩ = some (.string s) := hg.cell hcell (by simpa using HNE.out)
  have hqm : q < m := by omega
  have HC := Lib.hid hcur
  have HG := Lib.hid hg
  clear hcur hg F hcell
  go_wp2
  go_ret
  exact ⟨_, rfl, hs, HC.out, HG.out⟩
set_option maxHeartbeats 4000000 in
theorem spoil_any (w : World) (C : Nat) (a : Option Addr) (len cap : Nat) (s : ByteArray) (hs : s.size ≤ 1000) (hlen : len ≤ 1048576) (hc : CurAt w C a len cap) (hd : DataAt w C a len) :
    Calls Tryz.prog 61 #[.pointer (some ⟨C, 0, none⟩), .string s] w (AnyStr w C a len cap 1010) := by
  by_cases hz : s.size = 0
  · have e0 : ((s.size : Int) == 0) = true := by simp [hz]
    have F := Lib.hid (text_any w C a len cap 3 hlen (by omega) hc hd)
    clear hc hd hz
    go_enter Tryz.func61, Tryz.ntmps61
    go_wp2_with fail
    refine F.out.mono ?_
    rintro e w1 ⟨t, rfl, ht, hcur, hg⟩
    have HC := Lib.hid hcur
    have HG := Lib.hid hg
    clear hcur hg F
    go_wp2
    go_ret
    exact ⟨_, rfl, by rw [bs_size]; omega, HC.out, HG.out⟩
  · have e0 : ((s.size : Int) == 0) = false := by rw [beq_eq_false_iff_ne]; omega
    have F := Lib.hid (below_any w C a len cap s.size hlen hc hd (by omega))
    have HD := Lib.hid hd
    clear hc hd
    go_enter Tryz.func61, Tryz.ntmps61
    go_wp2_with fail
    refine F.out.mono ?_
    rintro e w1 ⟨r, rfl, hr0, hr1, hcur, hg⟩
    obtain ⟨k, rfl⟩ : ∃ k : Nat, r = k := ⟨r.toNat, by omega⟩
    have HG1 := Lib.hid hg
    have F1 := Lib.hid (below_small w1 C a len cap 4 hlen hcur (HD.out.grown hg) (by omega) (by omega))
    clear hcur hg F
    go_wp2_with fail
    refine F1.out.mono ?_
    rintro e w2 ⟨y, rfl, hy0, hy1, hcur, hg⟩
    have HC2 := Lib.hid hcur
    have HG2 := Lib.hid (grown_trans HG1.out hg)
    have HD2 := Lib.hid (HD.out.grown HG2.out)
    clear hcur hg F1 HG1
    have hk : k < s.size := by omega
    have hk1 : (k : Int) < (s.size : Int) := by omega
    have p0 : (0 : Int) ≤ (k : Int) + 1 := by omega
    have p1 : (k : Int) + 1 ≤ (s.size : Int) := by omega
    have p2 : ((k : Int) + 1).toNat = k + 1 := by omega
    have p3 : IntKind.i64.wrap ((k : Int) + 1) = (k : Int) + 1 := by rw [IntKind.wrap_i64]; omega
    have p4 : (k : Int) ≤ (s.size : Int) := by omega
    have x1 : (s.extract 0 k).size = k := by simp; omega
    have x2 : (s.extract (k + 1) s.size).size = s.size - (k + 1) := by simp
    have x3 : (s.extract k s.size).size = s.size - k := by simp
    by_cases h0 : y = 0
    · have d0 : (y == 0) = true := by simp [h0]
      clear h0
      go_wp2
      go_region_with (fail)
      go_wp2
      go_ret
      exact ⟨_, rfl, by simp; omega, HC2.out, grown_drew1 HG2.out⟩
    · have d0 : (y == 0) = false := by simpa using h0
      by_cases h1 : y = 1
      · have d1 : (y == 1) = true := by simp [h1]
        clear h0 h1
        have F3 := Lib.hid (byte_any w2.drew C a len cap hlen HC2.out HD2.out)
        go_wp2
        go_region_with (go_at_call 82; refine F3.out.mono ?_; rintro e w3 ⟨b, rfl, hb0, hb1, hcur, hg⟩; have HC3 := Lib.hid hcur; have HG3 := Lib.hid (grown_trans (grown_drew1 HG2.out) hg); clear hcur hg; obtain ⟨u, hu⟩ := u8_wrap b; have hc1 := conv_one w3 u _ hu; have HU := Lib.hid hu; clear hu; have hus : (bs [u]).size = 1 := rfl)
        go_wp2
        go_ret
        exact ⟨_, rfl, by simp; omega, HC3.out.other (heap_alloc_old w3 _ HC3.out.lt), grown_trans HG3.out (World.grownBy_alloc _ _ _)⟩
      · have d1 : (y == 1) = false := by simpa using h1
        by_cases h2 : y = 2
        · have d2 : (y == 2) = true := by simp [h2]
          clear h0 h1 h2
          go_wp2
          go_ret
          exact ⟨_, rfl, by simp; omega, HC2.out, HG2.out⟩
        · have d2 : (y == 2) = false := by simpa using h2
          clear h0 h1 h2
          have F3 := Lib.hid (below_small w2.drew C a len cap 255 hlen HC2.out HD2.out (by omega) (by omega))
          go_wp2
          go_region_with (go_at_call 60; refine F3.out.mono ?_; rintro e w3 ⟨b, rfl, hb0, hb1, hcur, hg⟩; have HC3 := Lib.hid hcur; have HG3 := Lib.hid (grown_trans (grown_drew1 HG2.out) hg); clear hcur hg; obtain ⟨u, hu⟩ := u8_wrap (bits BinOp.xor IntKind.i64 (IntKind.i64.wrap (s[k].toNat : Int)) (IntKind.i64.wrap (1 + b))); have hc1 := conv_one w3 u _ hu; have HU := Lib.hid hu; clear hu; have hus : (bs [u]).size = 1 := rfl)
          all_goals
            go_wp2
            go_ret
            exact ⟨_, rfl, by simp; omega, HC3.out.other (heap_alloc_old w3 _ HC3.out.lt), grown_trans HG3.out (World.grownBy_alloc _ _ _)⟩
end Go.Proofs.YtkejpikhlejmaaaGreatDoor

namespace Go.Proofs.YtkejpikhlejmaaaGreatDoor
open Go.RowKit
set_option maxRecDepth 1000000
set_option maxHeartbeats 4000000 in
theorem dShift_any (w : World) (a : Option Addr) (len cap : Nat) (hlen : len ≤ 1048576) (hd : CodeIn w a len) :
    Calls Tryz.prog 19 #[.slice a len cap] w fun e w' => ∃ (u : Value) (l : List Int) (x y : Int), e = .returned (.tuple #[.agg #[u], .int .i64 x, .int .i64 y]) ∧ -9223372036854775808 ≤ x ∧ x ≤ 9223372036854775807 ∧ -9223372036854775808 ≤ y ∧ y ≤ 9223372036854775807 ∧ DGrp w u l w' := by
  have HN := Lib.hid (new_at w a len cap hlen hd)
  clear hd
  go_enter Tryz.func19, Tryz.ntmps19
  go_wp2_with (first
    | (go_at_call 53; refine (l3Set_any _ _ a len cap l au l.length cu rfl (by have := M3.out.few; omega) M3.out.ints hlen M3.out.cur M3.out.dat).mono ?_; rintro e w4 ⟨x, rfl, hx0, hx1, hcur, hg⟩; have M4 := Lib.hid (M3.out.grown hcur hg); have g4 := hg.cell g3 (by have := G2.out; simp; omega); clear hcur hg)
    | (go_at_call 52; refine (l2Any_any _ _ a len cap hlen HC1.out HD1.out).mono ?_; rintro e w2 ⟨u, l, rfl, ho, hl, hcur, hg⟩; obtain ⟨au, cu, rfl, m2⟩ := mid_of HD1.out HB1.out HC1.out ho hl hcur hg; have M2 := Lib.hid m2; clear ho hl hcur hg m2; have M3 := Lib.hid (M2.out.alloc #[.slice au l.length cu] 26); have g3 := newC w2 (.slice au l.length cu) 26 (n := w2.heap.size) rfl; have G2 := Lib.hid M2.out.lt)
    | (go_at_call 51; refine HN.out.mono ?_; rintro e w1 ⟨rfl, hcur, hda, hbel⟩; have HC1 := Lib.hid hcur; have HD1 := Lib.hid hda; have HB1 := Lib.hid hbel; clear hcur hda hbel))
  have F3 := Lib.hid (l2Element_any _ _ a len cap l au l.length cu rfl (by have := M4.out.few; omega) M4.out.drew.ints M4.out.apart hlen M4.out.drew.cur M4.out.drew.dat)
  go_region_with (go_at_call 54; refine F3.out.mono ?_; rintro e w5 ⟨y, rfl, hy0, hy1, hcur, hg⟩; have M5 := Lib.hid (M4.out.drew.grown hcur hg); have g5 := hg.cell g4 (by have := G2.out; simp; omega); have c5 := M5.out.cells.1; have f5 := M5.out.cells.2; clear hcur hg)
  all_goals
    have c6 := World.cell?_setCell_same w5 ⟨w.heap.size, 0, none⟩ (.slice au l.length cu) c5
    go_wp2
    refine bodyPost_ret (v := .tuple #[.agg #[.slice au l.length cu], .int .i64 x, .int .i64 y]) (by simp [results, Tryz.results19, go_sem, c6]) rfl ?_
    exact ⟨_, l, x, y, rfl, hx0, hx1, hy0, hy1, M5.out.finish.1, M5.out.few, M5.out.finish.2⟩
theorem seven_at (q : Nat) (h : q < 7) : ∃ z : Int, -9223372036854775808 ≤ z ∧ z ≤ 9223372036854775807 ∧ (#[.int .i64 0, .int .i64 1, .int .i64 2, .int .i64 (-1), .int .i64 3, .int .i64 (-101), .int .i64 5] : Array Value)[q]? = some (.int .i64 z) := by
  match q, h with
  | 0, _ => exact ⟨0, by decide, by decide, rfl⟩
  | 1, _ => exact ⟨1, by decide, by decide, rfl⟩
  | 2, _ => exact ⟨2, by decide, by decide, rfl⟩
  | 3, _ => exact ⟨-1, by decide, by decide, rfl⟩
  | 4, _ => exact ⟨3, by decide, by decide, rfl⟩
  | 5, _ => exact ⟨-101, by decide, by decide, rfl⟩
  | 6, _ => exact ⟨5, by decide, by decide, rfl⟩
theorem lstE_bits (l : List Int) (s : Int) (x : Int) (hx : x ∈ lstE l s) : x < 24 := by
  unfold lstE at hx
  split at hx
  · rw [List.mem_map] at hx
    obtain ⟨y, hy, rfl⟩ := hx
    have := (upK_mem hy).1
    omega
  · cases hx
/-- The texts that are picked from. -/
def texts9 : List ByteArray := [⟨#[]⟩, ⟨#[110, 111, 110, 101]⟩, ⟨#[48]⟩, ⟨#[49, 44, 48]⟩, ⟨#[48, 44, 48]⟩, ⟨#[48, 44]⟩, ⟨#[48, 48]⟩, ⟨#[50, 52]⟩, ⟨#[45, 49]⟩]
theorem texts_at (i : Nat) (h : i < 9) : ∃ t : ByteArray, t.size ≤ 10 ∧ ((texts9.map fun t => Value.string t).toArray)[i]? = some (.string t) := by
  match i, h with
  | 0, _ => exact ⟨_, by decide, rfl⟩
  | 1, _ => exact ⟨_, by decide, rfl⟩
  | 2, _ => exact ⟨_, by decide, rfl⟩
  | 3, _ => exact ⟨_, by decide, rfl⟩
  | 4, _ => exact ⟨_, by decide, rfl⟩
  | 5, _ => exact ⟨_, by decide, rfl⟩
  | 6, _ => exact ⟨_, by decide, rfl⟩
  | 7, _ => exact ⟨_, by decide, rfl⟩
  | 8, _ => exact ⟨_, by decide, rfl⟩
theorem fmt_len (l : List Int) (s : Int) : (fmtS l s).length ≤ 80 := by
  unfold fmtS
  split
  · split
    · decide
    · have h1 := join_short 44 (lstE l s) (fun x hx => by have := lstE_bnd l s x hx; have h2 := lstE_bits l s x hx; omega)
      have := lstE_len l s
      omega
  · simp
set_option maxHeartbeats 4000000 in
theorem dParS_any (w : World) (a : Option Addr) (len cap : Nat) (hlen : len ≤ 1048576) (hd : CodeIn w a len) :
    Calls Tryz.prog 23 #[.slice a len cap] w fun e w' => ∃ (u : Value) (l : List Int) (t : ByteArray), e = .returned (.tuple #[.agg #[u], .string t]) ∧ t.size ≤ 1010 ∧ DGrp w u l w' := by
  have HN := Lib.hid (new_at w a len cap hlen hd)
  clear hd
  go_enter Tryz.func23, Tryz.ntmps23
  go_wp2_with (first
    | (go_at_call 52; refine (l2Any_any _ _ a len cap hlen HC1.out HD1.out).mono ?_; rintro e w2 ⟨u, l, rfl, ho, hl, hcur, hg⟩; obtain ⟨au, cu, rfl, m2⟩ := mid_of HD1.out HB1.out HC1.out ho hl hcur hg; have M2 := Lib.hid m2; clear ho hl hcur hg m2; have M3 := Lib.hid (M2.out.alloc #[.slice au l.length cu] 26); have g3 := newC w2 (.slice au l.length cu) 26 (n := w2.heap.size) rfl; have G2 := Lib.hid M2.out.lt)
    | (go_at_call 51; refine HN.out.mono ?_; rintro e w1 ⟨rfl, hcur, hda, hbel⟩; have HC1 := Lib.hid hcur; have HD1 := Lib.hid hda; have HB1 := Lib.hid hbel; clear hcur hda hbel))
  have F3 := Lib.hid (l3Set_any _ _ a len cap l au l.length cu rfl (by have := M3.out.few; omega) M3.out.drew.ints hlen M3.out.drew.cur M3.out.drew.dat)
  go_region_with (first
    | (go_at_call 10; refine (sFmtS _ _ l _ _ x rfl (by have := M4.out.few; omega) M4.out.ints).mono ?_; rintro e w5 ⟨rfl, hb5⟩; have M5 := Lib.hid (M4.out.below hb5); have g5 := keepD hb5 g4; clear hb5)
    | (go_at_call 53; refine F3.out.mono ?_; rintro e w4 ⟨x, rfl, hx0, hx1, hcur, hg⟩; have M4 := Lib.hid (M3.out.drew.grown hcur hg); have g4 := hg.cell g3 (by have := G2.out; simp; omega); clear hcur hg))
  all_goals
    have hts : (bs (fmtS l x)).size ≤ 80 := by rw [bs_size]; exact fmt_len l x
    have HT := Lib.hid hts
    generalize fmtS l x = tx at *
    have G5 := Lib.hid (show w.heap.size + 2 ≤ w2.heap.size from G2.out)
    go_wp2_with (fail)
    refine (below_small _ _ a len cap 4 hlen M5.out.cur M5.out.dat (by omega) (by omega)).mono ?_
    rintro e w6 ⟨y, rfl, hy0, hy1, hcur, hg⟩
    have M6 := Lib.hid (M5.out.grown hcur hg)
    have g6 := hg.cell g5 (by have := G2.out; simp; omega)
    clear hcur hg
    by_cases h0 : y = 0
    · have d0 : (y == 0) = true := by simp [h0]
      clear h0
      have F7 := Lib.hid (spoil_any _ _ a len cap (bs tx) (by omega) hlen M6.out.drew.cur M6.out.drew.dat)
      go_wp2
      go_region_with (go_at_call 61; refine F7.out.mono ?_; rintro e w7 ⟨t, rfl, ht, hcur, hg⟩; have M7 := Lib.hid (M6.out.drew.grown hcur hg); have g7 := hg.cell g6 (by have := G2.out; simp; omega); have c7 := M7.out.cells.1; have f7 := M7.out.cells.2; clear hcur hg)
      all_goals
        have c8 := World.cell?_setCell_same w7 ⟨w.heap.size, 0, none⟩ (.slice au l.length cu) c7
        go_wp2
        refine bodyPost_ret (v := .tuple #[.agg #[.slice au l.length cu], .string t]) (by simp [results, Tryz.results23, go_sem, c8]) rfl ?_
        exact ⟨_, l, t, rfl, ht, M7.out.finish.1, M7.out.few, M7.out.finish.2⟩
    · have d0 : (y == 0) = false := by simpa using h0
      by_cases h1 : y = 1
      · have d1 : (y == 1) = true := by simp [h1]
        clear h0 h1
        have M6a := Lib.hid (M6.out.drew.alloc #[.string { data := #[] }, .string { data := #[110, 111, 110, 101] }, .string { data := #[48] }, .string { data := #[49, 44, 48] }, .string { data := #[48, 44, 48] }, .string { data := #[48, 44] }, .string { data := #[48, 48] }, .string { data := #[50, 52] }, .string { data := #[45, 49] }] 9)
        have F7 := Lib.hid (pickS_any (w6.drew.alloc (.cells #[.string { data := #[] }, .string { data := #[110, 111, 110, 101] }, .string { data := #[48] }, .string { data := #[49, 44, 48] }, .string { data := #[48, 44, 48] }, .string { data := #[48, 44] }, .string { data := #[48, 48] }, .string { data := #[50, 52] }, .string { data := #[45, 49] }] 9)) _ a len cap w6.heap.size 9 9 10 hlen M6a.out.cur M6a.out.dat (by omega) (by omega) (by have := M6.out.lt; omega) (fun i hi => by
          obtain ⟨t, ht, htt⟩ := texts_at i hi
          exact ⟨t, ht, (World.cell?_alloc_at _ _ _ _ rfl).trans htt⟩))
        have hw6 : w2.heap.size < w6.heap.size := World.block_lt_of_cell? w6 _ g6
        have g6a : (w6.drew.alloc (.cells #[.string { data := #[] }, .string { data := #[110, 111, 110, 101] }, .string { data := #[48] }, .string { data := #[49, 44, 48] }, .string { data := #[48, 44, 48] }, .string { data := #[48, 44] }, .string { data := #[48, 48] }, .string { data := #[50, 52] }, .string { data := #[45, 49] }] 9)).cell? ⟨w2.heap.size, 0, none⟩ = some (.slice au l.length cu) := (World.cell?_alloc_past _ _ _ (World.block_lt_of_cell? w6 _ g6)).trans g6
        go_wp2
        go_region_with (go_at_call 62; refine F7.out.mono ?_; rintro e w7 ⟨t, rfl, ht, hcur, hg⟩; have M7 := Lib.hid (M6a.out.grown hcur hg); have g7 := hg.cell g6a (by have := G2.out; simp; omega); have c7 := M7.out.cells.1; have f7 := M7.out.cells.2; clear hcur hg)
        all_goals
          have c8 := World.cell?_setCell_same w7 ⟨w.heap.size, 0, none⟩ (.slice au l.length cu) c7
          go_wp2
          refine bodyPost_ret (v := .tuple #[.agg #[.slice au l.length cu], .string t]) (by simp [results, Tryz.results23, go_sem, c8]) rfl ?_
          exact ⟨_, l, t, rfl, by omega, M7.out.finish.1, M7.out.few, M7.out.finish.2⟩
      · have d1 : (y == 1) = false := by simpa using h1
        clear h0 h1
        have c6 := M6.out.cells.1
        have f6 := M6.out.cells.2
        have c7 := World.cell?_setCell_same w6 ⟨w.heap.size, 0, none⟩ (.slice au l.length cu) c6
        go_wp2
        refine bodyPost_ret (v := .tuple #[.agg #[.slice au l.length cu], .string (bs tx)]) (by simp [results, Tryz.results23, go_sem, c7]) rfl ?_
        exact ⟨_, l, _, rfl, by omega, M6.out.finish.1, M6.out.few, M6.out.finish.2⟩
end Go.Proofs.YtkejpikhlejmaaaGreatDoor
