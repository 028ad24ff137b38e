/- The verifier's drawing functions, continued: the cursor over a code, a drawn text, a drawn number. -/
import Derived.Test.YticgoodmfjjggaaGreatDoorDraw
namespace Go.Proofs.YticgoodmfjjggaaGreatDoor
open Go.RowKit
/-- The code's bytes as they came in. -/
def CodeIn (w : World) (a : Option Addr) (len : Nat) : Prop := len = 0 ∨ ∃ b off, a = some ⟨b, off, none⟩ ∧ b < w.heap.size ∧ ∀ i, i < len → ∃ x : Nat, x < 256 ∧ w.cell? ⟨b, off + i, none⟩ = some (.int .u8 x)
theorem CodeIn.below {w w' : World} {a : Option Addr} {len : Nat} (h : CodeIn w a len) (hb : Below w.heap.size w w') : CodeIn w' a len := by
  rcases h with h | ⟨b, off, ha, hlt, hc⟩
  · exact Or.inl h
  · exact Or.inr ⟨b, off, ha, Nat.lt_of_lt_of_le hlt hb.size, fun i hi => by
      obtain ⟨x, hx, hcell⟩ := hc i hi
      exact ⟨x, hx, (hb.cell (p := ⟨b, off + i, none⟩) hlt).trans hcell⟩⟩
/-- The new cursor. -/
def NewCur (w : World) (a : Option Addr) (len cap : Nat) (e : Ending) (w' : World) : Prop :=
  e = .returned (.pointer (some ⟨w.heap.size, 0, none⟩)) ∧ CurAt w' w.heap.size a len cap ∧ DataAt w' w.heap.size a len ∧ Below w.heap.size w w'
theorem new_end (w : World) (a : Option Addr) (len cap : Nat) (h : Int) (hd : CodeIn w a len) :
    CurAt (w.alloc (.cells #[.slice a len cap, .int .i64 0, .int .i64 h] 106)) w.heap.size a len cap ∧ DataAt (w.alloc (.cells #[.slice a len cap, .int .i64 0, .int .i64 h] 106)) w.heap.size a len := by
  refine ⟨⟨0, h, by omega, by omega, heap_alloc_new _ _⟩, ?_⟩
  rcases hd with hd | ⟨b, off, ha, hlt, hc⟩
  · exact Or.inl hd
  · exact Or.inr ⟨b, off, ha, by omega, fun i hi => by
      obtain ⟨x, hx, hcell⟩ := hc i hi
      exact ⟨x, hx, (World.cell?_alloc_past _ _ _ hlt).trans hcell⟩⟩
set_option maxHeartbeats 2000000 in
set_option maxRecDepth 1000000 in
theorem new_any (w : World) (a : Option Addr) (len cap : Nat) (hlen : len ≤ 1048576) (hd : CodeIn w a len) :
    Calls Tryz.prog 79 #[.slice a len cap] w (NewCur w a len cap) := by
  have HD := Lib.hid hd
  clear hd
  go_enter Tryz.func79, Tryz.ntmps79
  go_wp2
  go_loop [3, 4] (fun h i => ∃ (k : Nat) (hh : Int), k ≤ len ∧ i = .int .i64 k ∧ h = .int .i64 hh) (fun _ i => len - (intOf i).toNat)
  case atStart => exact ⟨0, _, Nat.zero_le _, rfl, rfl⟩
  case round =>
    obtain ⟨k, hh, hk, rfl, rfl⟩ := hrel
    by_cases hlt : k < len ∧ k < 4000
    · obtain ⟨hl, h4⟩ := hlt
      rcases HD.out with h0 | ⟨b, off, ha, hbl, hc⟩
      · omega
      · subst ha
        obtain ⟨x, hx, hcell⟩ := hc k hl
        clear hc
        go_wp2
        go_round
        case rel => exact ⟨k + 1, _, by omega, by go_num, rfl⟩
        case measure => simp [intOf]; omega
    · by_cases hl : k < len
      · have h4 : 4000 ≤ k := by omega
        clear hlt
        go_wp2
        go_ret
        exact ⟨rfl, (new_end w a len cap hh HD.out).1, (new_end w a len cap hh HD.out).2, (Below.refl _ _).alloc (Nat.le_refl _) _⟩
      · have hl' : len ≤ k := by omega
        clear hlt hl
        go_wp2
        go_ret
        exact ⟨rfl, (new_end w a len cap hh HD.out).1, (new_end w a len cap hh HD.out).2, (Below.refl _ _).alloc (Nat.le_refl _) _⟩
/-- A drawn text. -/
def DrawnText (w : World) (C : Nat) (a : Option Addr) (len cap most : Nat) (e : Ending) (w' : World) : Prop :=
  ∃ t : List UInt8, e = .returned (strV t) ∧ t.length ≤ most ∧ CurAt w' C a len cap ∧ w.grownBy w' (some C)
theorem CurAt.lt {w : World} {C : Nat} {a : Option Addr} {len cap : Nat} (h : CurAt w C a len cap) : C < w.heap.size := by
  obtain ⟨i, h, _, _, hb⟩ := h
  exact (Array.getElem?_eq_some_iff.1 hb).1
theorem CurAt.other {w w' : World} {C : Nat} {a : Option Addr} {len cap : Nat} (h : CurAt w C a len cap) (hb : w'.heap[C]? = w.heap[C]?) : CurAt w' C a len cap := by
  obtain ⟨i, h, h0, h1, hc⟩ := h
  exact ⟨i, h, h0, h1, hb.trans hc⟩
/-- A row of the call's own beside the cursor: it grows by one, the cursor stands. -/
theorem text_step {w wr w1 w2 : World} {C B : Nat} {a : Option Addr} {len cap : Nat} {v : Value} {o : Obj} {d : List UInt8} (hB : w.heap.size = B) (hC : C < B) (hown : w1.ownsRow B 5 1 v d.length (d.map byteV))
    (hg : w.grownBy wr (some C)) (hg1 : wr.grownBy w1 (some C)) (hcur : CurAt w1 C a len cap) (hgrow : (w1.alloc o).grownBy w2 v.ownBlock) : CurAt w2 C a len cap ∧ w.grownBy w2 (some C) := by
  have hg01 := grownC_trans hg hg1
  have hne : ∀ k, k < B → some k ≠ v.ownBlock := fun k hk e => by have := (hown.lt k e.symm).1; omega
  refine ⟨hcur.other ?_, ⟨hgrow.os.trans hg01.os, hgrow.tape.trans hg01.tape, hgrow.output.trans hg01.output, ?_, fun k hk hkc => ?_⟩⟩
  · rw [hgrow.block C (by have := hcur.lt; simp; omega) (hne C hC)]
    exact heap_alloc_old w1 o hcur.lt
  · have := hgrow.size; have := hg01.size; simp at *; omega
  · have hk1 : k < w1.heap.size := Nat.lt_of_lt_of_le hk hg01.size
    rw [hgrow.block k (by simp; omega) (hne k (by omega)), heap_alloc_old w1 o hk1]
    exact hg01.block k hk hkc
set_option maxHeartbeats 2000000 in
set_option maxRecDepth 1000000 in
theorem text_any (w : World) (C : Nat) (a : Option Addr) (len cap most : Nat) (hlen : len ≤ 1048576) (hm : most ≤ 1000) (hc : CurAt w C a len cap) (hd : DataAt w C a len) :
    Calls Tryz.prog 122 #[.pointer (some ⟨C, 0, none⟩), .int .i64 most] w (DrawnText w C a len cap most) := by
  obtain ⟨i0, hi, hz0, hz1, hz2⟩ := info_parts byteInfo
  have hC := hc.lt
  have hc1 : CurAt (w.alloc (.cells #[] 5)) C a len cap := hc.other (heap_alloc_old w _ hC)
  have hg0 : w.grownBy (w.alloc (.cells #[] 5)) (some C) := World.grownBy_alloc w _ _
  have HD := Lib.hid hd
  have F1 := Lib.hid (below_any _ C a len cap 4 hlen hc1 (HD.out.grown hg0) (by omega))
  have hown0 : (w.alloc (.cells #[] 5)).ownsRow w.heap.size 5 1 (.slice (some ⟨w.heap.size, 0, none⟩) 0 0) 0 [] := World.ownsRow_lit _ _ 0 (Nat.le_refl _) (by decide) rfl
  have HOWN := Lib.hid hown0
  have HG0 := Lib.hid hg0
  clear hc hd hc1 hg0 hown0
  go_enter Tryz.func122, Tryz.ntmps122
  go_wp2_with fail
  refine F1.out.mono ?_
  rintro e w1 ⟨st, rfl, hs0, hs3, hcur, hg⟩
  have HG1 := Lib.hid (grownC_trans HG0.out hg)
  have HO1 := Lib.hid (HOWN.out.kept hg (Or.inr (by simp [Value.ownBlock]; omega)))
  have F2 := Lib.hid (below_any w1 C a len cap ((most : Int) + 1) hlen hcur (HD.out.grown HG1.out) (by omega))
  clear hcur hg F1 HG0 HOWN
  by_cases h1 : st = 1
  · have hs1 : (st == 1) = true := by simp [h1]
    have hs2 : (st == 2) = false := by simp [h1]
    clear h1
    go_wp2_with fail
    refine F2.out.mono ?_
    rintro e w2 ⟨n, rfl, hn0, hn1, hcur, hg⟩
    have HG2 := Lib.hid (grownC_trans HG1.out hg)
    have HO2 := Lib.hid (HO1.out.kept hg (Or.inr (by simp [Value.ownBlock]; omega)))
    have HC2 := Lib.hid hcur
    clear hcur hg F2 HO1
    go_wp2
    go_loopw [5, 7] (fun v j wr => ∃ (d : List UInt8) (k : Nat), j = .int .i64 k ∧ d.length + k ≤ most ∧ wr.ownsRow w.heap.size 5 1 v d.length (d.map byteV) ∧ Hid (CurAt wr C a len cap) ∧ Hid (w.grownBy wr (some C))) (fun _ j _ => (intOf j).toNat)
    case atStart => exact ⟨[], n.toNat, by rw [show ((n.toNat : Nat) : Int) = n by omega], by simp; omega, HO2.out, HC2, HG2⟩
    case round =>
      obtain ⟨d, k, rfl, hdk, hown, HC, HG⟩ := hrel
      by_cases hk : 0 < k
      · have F3 := Lib.hid (byte_any wr C a len cap hlen HC.out (HD.out.grown HG.out))
        go_wp2_with fail
        refine F3.out.mono ?_
        rintro e w3 ⟨x, rfl, hx0, hx1, hcur, hg⟩
        have hown3 := hown.kept hg (Or.inr (fun e => by have := (hown.lt C e).1; omega))
        have HCUR := Lib.hid hcur
        have HG3 := Lib.hid hg
        clear hcur hg F3 hown
        obtain ⟨u, hu⟩ := u8_of (x % 2) (by omega) (by omega)
        have HU := Lib.hid hu
        clear hu
        go_wp2_with (at_builtin; refine wpList_append_own _ rfl _ _ 22 rfl w.heap.size 5 i0 (.int .u8 0) 1 1 Tryz.underlying22 hi hz0 hz1 hz2 rfl (by decide) _ _ _ rfl (hown3.alloc _) ⟨w3.heap.size, 0, none⟩ 1 1 [.int .u8 (x % 2)] rfl rfl ?c1 ?c2 ?c3 ?c4 ?c5 ?_)
        case c1 =>
          intro q u2 hq
          match q, hq with
          | 0, hq => simp at hq; subst hq; simp [Addr.add]
        case c2 => intro u2 hu2; simp at hu2; subst hu2; rfl
        case c3 => unfold maxLen; omega
        case c4 => omega
        case c5 => have := HG.out.size; have := HG3.out.size; simp; omega
        intro v' w4 hown' hgrow _
        have hown4 : w4.ownsRow w.heap.size 5 1 v' (d ++ [u]).length ((d ++ [u]).map byteV) := by
          rw [List.length_append, List.map_append]
          simp only [List.map_cons, List.map_nil, byteV, HU.out, List.length_cons, List.length_nil, Nat.zero_add]
          exact hown'
        obtain ⟨hcur4, hg4⟩ := text_step rfl hC hown3 HG.out HG3.out HCUR.out hgrow
        have HC4 := Lib.hid hcur4
        have HG4 := Lib.hid hg4
        clear hown' hgrow hown3 hcur4 hg4
        go_wp2
        go_roundw
        case rel => exact ⟨d ++ [u], k - 1, by congr 1; omega, by simp; omega, hown4, HC4, HG4⟩
        case measure => simp [intOf]; omega
      · have hk0 : (k : Int) ≤ 0 := by omega
        have hconv := conv_own hown
        clear hk hown
        go_wp2
        go_ret
        exact ⟨d, rfl, by omega, HC.out, HG.out⟩
  · by_cases h2 : st = 2
    · have hs1 : (st == 1) = false := by simpa using h1
      have hs2 : (st == 2) = true := by simp [h2]
      clear h1 h2
      go_wp2_with fail
      refine F2.out.mono ?_
      rintro e w2 ⟨n, rfl, hn0, hn1, hcur, hg⟩
      have HG2 := Lib.hid (grownC_trans HG1.out hg)
      have HO2 := Lib.hid (HO1.out.kept hg (Or.inr (by simp [Value.ownBlock]; omega)))
      have HC2 := Lib.hid hcur
      clear hcur hg F2 HO1
      go_wp2
      go_loopw [5, 7] (fun v j wr => ∃ (d : List UInt8) (k : Nat), j = .int .i64 k ∧ d.length + k ≤ most ∧ wr.ownsRow w.heap.size 5 1 v d.length (d.map byteV) ∧ Hid (CurAt wr C a len cap) ∧ Hid (w.grownBy wr (some C))) (fun _ j _ => (intOf j).toNat)
      case atStart => exact ⟨[], n.toNat, by rw [show ((n.toNat : Nat) : Int) = n by omega], by simp; omega, HO2.out, HC2, HG2⟩
      case round =>
        obtain ⟨d, k, rfl, hdk, hown, HC, HG⟩ := hrel
        by_cases hk : 0 < k
        · have F3 := Lib.hid (byte_any wr C a len cap hlen HC.out (HD.out.grown HG.out))
          go_wp2_with fail
          refine F3.out.mono ?_
          rintro e w3 ⟨x, rfl, hx0, hx1, hcur, hg⟩
          have hown3 := hown.kept hg (Or.inr (fun e => by have := (hown.lt C e).1; omega))
          have HCUR := Lib.hid hcur
          have HG3 := Lib.hid hg
          clear hcur hg F3 hown
          obtain ⟨u, hu⟩ := u8_of (97 + x % 4) (by omega) (by omega)
          have HU := Lib.hid hu
          clear hu
          go_wp2_with (at_builtin; refine wpList_append_own _ rfl _ _ 22 rfl w.heap.size 5 i0 (.int .u8 0) 1 1 Tryz.underlying22 hi hz0 hz1 hz2 rfl (by decide) _ _ _ rfl (hown3.alloc _) ⟨w3.heap.size, 0, none⟩ 1 1 [.int .u8 (97 + x % 4)] rfl rfl ?c1 ?c2 ?c3 ?c4 ?c5 ?_)
          case c1 =>
            intro q u2 hq
            match q, hq with
            | 0, hq => simp at hq; subst hq; simp [Addr.add]
          case c2 => intro u2 hu2; simp at hu2; subst hu2; rfl
          case c3 => unfold maxLen; omega
          case c4 => omega
          case c5 => have := HG.out.size; have := HG3.out.size; simp; omega
          intro v' w4 hown' hgrow _
          have hown4 : w4.ownsRow w.heap.size 5 1 v' (d ++ [u]).length ((d ++ [u]).map byteV) := by
            rw [List.length_append, List.map_append]
            simp only [List.map_cons, List.map_nil, byteV, HU.out, List.length_cons, List.length_nil, Nat.zero_add]
            exact hown'
          obtain ⟨hcur4, hg4⟩ := text_step rfl hC hown3 HG.out HG3.out HCUR.out hgrow
          have HC4 := Lib.hid hcur4
          have HG4 := Lib.hid hg4
          clear hown' hgrow hown3 hcur4 hg4
          go_wp2
          go_roundw
          case rel => exact ⟨d ++ [u], k - 1, by congr 1; omega, by simp; omega, hown4, HC4, HG4⟩
          case measure => simp [intOf]; omega
        · have hk0 : (k : Int) ≤ 0 := by omega
          have hconv := conv_own hown
          clear hk hown
          go_wp2
          go_ret
          exact ⟨d, rfl, by omega, HC.out, HG.out⟩
    · have hs1 : (st == 1) = false := by simpa using h1
      have hs2 : (st == 2) = false := by simpa using h2
      clear h1 h2
      go_wp2_with fail
      refine F2.out.mono ?_
      rintro e w2 ⟨n, rfl, hn0, hn1, hcur, hg⟩
      have HG2 := Lib.hid (grownC_trans HG1.out hg)
      have HO2 := Lib.hid (HO1.out.kept hg (Or.inr (by simp [Value.ownBlock]; omega)))
      have HC2 := Lib.hid hcur
      clear hcur hg F2 HO1
      go_wp2
      go_loopw [5, 7] (fun v j wr => ∃ (d : List UInt8) (k : Nat), j = .int .i64 k ∧ d.length + k ≤ most ∧ wr.ownsRow w.heap.size 5 1 v d.length (d.map byteV) ∧ Hid (CurAt wr C a len cap) ∧ Hid (w.grownBy wr (some C))) (fun _ j _ => (intOf j).toNat)
      case atStart => exact ⟨[], n.toNat, by rw [show ((n.toNat : Nat) : Int) = n by omega], by simp; omega, HO2.out, HC2, HG2⟩
      case round =>
        obtain ⟨d, k, rfl, hdk, hown, HC, HG⟩ := hrel
        by_cases hk : 0 < k
        · have F3 := Lib.hid (byte_any wr C a len cap hlen HC.out (HD.out.grown HG.out))
          go_wp2_with fail
          refine F3.out.mono ?_
          rintro e w3 ⟨x, rfl, hx0, hx1, hcur, hg⟩
          have hown3 := hown.kept hg (Or.inr (fun e => by have := (hown.lt C e).1; omega))
          have HCUR := Lib.hid hcur
          have HG3 := Lib.hid hg
          clear hcur hg F3 hown
          obtain ⟨u, hu⟩ := u8_of (x) (by omega) (by omega)
          have HU := Lib.hid hu
          clear hu
          go_wp2_with (at_builtin; refine wpList_append_own _ rfl _ _ 22 rfl w.heap.size 5 i0 (.int .u8 0) 1 1 Tryz.underlying22 hi hz0 hz1 hz2 rfl (by decide) _ _ _ rfl (hown3.alloc _) ⟨w3.heap.size, 0, none⟩ 1 1 [.int .u8 (x)] rfl rfl ?c1 ?c2 ?c3 ?c4 ?c5 ?_)
          case c1 =>
            intro q u2 hq
            match q, hq with
            | 0, hq => simp at hq; subst hq; simp [Addr.add]
          case c2 => intro u2 hu2; simp at hu2; subst hu2; rfl
          case c3 => unfold maxLen; omega
          case c4 => omega
          case c5 => have := HG.out.size; have := HG3.out.size; simp; omega
          intro v' w4 hown' hgrow _
          have hown4 : w4.ownsRow w.heap.size 5 1 v' (d ++ [u]).length ((d ++ [u]).map byteV) := by
            rw [List.length_append, List.map_append]
            simp only [List.map_cons, List.map_nil, byteV, HU.out, List.length_cons, List.length_nil, Nat.zero_add]
            exact hown'
          obtain ⟨hcur4, hg4⟩ := text_step rfl hC hown3 HG.out HG3.out HCUR.out hgrow
          have HC4 := Lib.hid hcur4
          have HG4 := Lib.hid hg4
          clear hown' hgrow hown3 hcur4 hg4
          go_wp2
          go_roundw
          case rel => exact ⟨d ++ [u], k - 1, by congr 1; omega, by simp; omega, hown4, HC4, HG4⟩
          case measure => simp [intOf]; omega
        · have hk0 : (k : Int) ≤ 0 := by omega
          have hconv := conv_own hown
          clear hk hown
          go_wp2
          go_ret
          exact ⟨d, rfl, by omega, HC.out, HG.out⟩
end Go.Proofs.YticgoodmfjjggaaGreatDoor
