/- The verifier's drawing functions of chapter 1: a drawn number, a drawn text, a drawn number with a width. -/
import Derived.Test.YtlbijhfjlgafeaaDoorDraw2
namespace Go.Proofs.YtlbijhfjlgafeaaDoor
open Go.RowKit
/-- Any int. -/
abbrev AnyInt (w : World) (C : Nat) (a : Option Addr) (len cap : Nat) (e : Ending) (w' : World) : Prop := Drawn w C a len cap (-9223372036854775808) 9223372036854775807 e w'
set_option maxHeartbeats 2000000 in
set_option maxRecDepth 1000000 in
theorem pick_any (w : World) (C : Nat) (a : Option Addr) (len cap L m cp : Nat) (hlen : len ≤ 1048576) (hc : CurAt w C a len cap) (hd : DataAt w C a len) (hm0 : 0 < m) (hm : m ≤ 1000) (hne : L ≠ C)
    (hcells : ∀ i, i < m → ∃ x : Int, -9223372036854775808 ≤ x ∧ x ≤ 9223372036854775807 ∧ w.cell? ⟨L, i, none⟩ = some (.int .i64 x)) :
    Calls Tryd.prog 30 #[.pointer (some ⟨C, 0, none⟩), .slice (some ⟨L, 0, none⟩) m cp] w (AnyInt w C a len cap) := by
  have F := Lib.hid (below_any w C a len cap m hlen hc hd (by omega))
  have HCE := Lib.hid hcells
  have HNE := Lib.hid hne
  clear hc hd hcells hne
  go_enter Tryd.func30, Tryd.ntmps30
  go_wp2_with fail
  refine F.out.mono ?_
  rintro e w1 ⟨r, rfl, hr0, hr1, hcur, hg⟩
  obtain ⟨q, rfl⟩ : ∃ q : Nat, r = q := ⟨r.toNat, by omega⟩
  obtain ⟨x, hx0, hx1, hcell⟩ := HCE.out q (by omega)
  have hcell1 : w1.cell? ⟨L, q, none⟩ = some (.int .i64 x) := hg.cell hcell (by simpa using HNE.out)
  have hqm : q < m := by omega
  have HC := Lib.hid hcur
  have HG := Lib.hid hg
  clear hcur hg F hcell
  go_wp2
  go_ret
  exact ⟨_, rfl, hx0, hx1, HC.out, HG.out⟩
def picks : List Int := [-1, 0, 127, 128, 255, 256, 16383, 16384, 65535, 65536, 562949953421311, 562949953421312, 999999999, 1000000000, -999999999, 9223372036854775807, -9223372036854775808]
theorem picks_fit (i : Nat) (h : i < 17) : ∃ x : Int, -9223372036854775808 ≤ x ∧ x ≤ 9223372036854775807 ∧ (picks.map (Value.int .i64)).toArray[i]? = some (.int .i64 x) := by
  have : i = 0 ∨ i = 1 ∨ i = 2 ∨ i = 3 ∨ i = 4 ∨ i = 5 ∨ i = 6 ∨ i = 7 ∨ i = 8 ∨ i = 9 ∨ i = 10 ∨ i = 11 ∨ i = 12 ∨ i = 13 ∨ i = 14 ∨ i = 15 ∨ i = 16 := by omega
  rcases this with rfl | rfl | rfl | rfl | rfl | rfl | rfl | rfl | rfl | rfl | rfl | rfl | rfl | rfl | rfl | rfl | rfl <;> exact ⟨_, by decide, by decide, rfl⟩
theorem mul_fit (x y : Int) (hx0 : 0 ≤ x) (hx1 : x ≤ 999999999) (hy0 : 0 ≤ y) (hy1 : y ≤ 999999999) : 0 ≤ x * y ∧ x * y ≤ 999999998000000001 := by
  refine ⟨Int.mul_nonneg hx0 hy0, ?_⟩
  have h1 : x * y ≤ 999999999 * y := Int.mul_le_mul_of_nonneg_right hx1 hy0
  omega
set_option maxHeartbeats 4000000 in
set_option maxRecDepth 1000000 in
theorem num_any (w : World) (C : Nat) (a : Option Addr) (len cap : Nat) (hlen : len ≤ 1048576) (hc : CurAt w C a len cap) (hd : DataAt w C a len) :
    Calls Tryd.prog 22 #[.pointer (some ⟨C, 0, none⟩)] w (AnyInt w C a len cap) := by
  have F := Lib.hid (below_any w C a len cap 8 hlen hc hd (by omega))
  have HD := Lib.hid hd
  clear hc hd
  go_enter Tryd.func22, Tryd.ntmps22
  go_wp2_with fail
  refine F.out.mono ?_
  rintro e w1 ⟨r, rfl, hr0, hr1, hcur, hg⟩
  have HC := Lib.hid hcur
  have HG := Lib.hid hg
  clear hcur hg F
  by_cases h0 : r = 0
  · have e0 : (r == 0) = true := by simp [h0]
    clear h0
    go_wp2_with fail
    refine (pick_any _ C a len cap w1.heap.size 17 17 hlen ?h1 ?h2 (by omega) (by omega) ?h3 ?h4).mono ?_
    case h1 => exact HC.out.other (heap_alloc_old w1 _ HC.out.lt)
    case h2 => exact (HD.out.grown HG.out).grown (World.grownBy_alloc w1 _ _)
    case h3 => have := HC.out.lt; omega
    case h4 =>
      intro i hi
      obtain ⟨x, hx0, hx1, hx⟩ := picks_fit i hi
      exact ⟨x, hx0, hx1, (World.cell?_alloc_at _ _ _ _ rfl).trans hx⟩
    rintro e w2 ⟨x, rfl, hx0, hx1, hcur, hg⟩
    have HC2 := Lib.hid hcur
    have HG2 := Lib.hid (grown_trans (grown_trans HG.out (World.grownBy_alloc w1 _ _)) hg)
    clear hcur hg
    go_wp2
    go_ret
    exact ⟨_, rfl, hx0, hx1, HC2.out, HG2.out⟩
  · have e0 : (r == 0) = false := by simpa using h0
    by_cases h1 : r = 1
    · have e1 : (r == 1) = true := by simp [h1]
      have F1 := Lib.hid (below_any w1 C a len cap 1000000000 hlen HC.out (HD.out.grown HG.out) (by omega))
      clear h0 h1
      go_wp2_with fail
      refine F1.out.mono ?_
      rintro e w2 ⟨x, rfl, hx0, hx1, hcur, hg⟩
      have HG2 := Lib.hid (grown_trans HG.out hg)
      have F2 := Lib.hid (below_any w2 C a len cap 1000000000 hlen hcur (HD.out.grown HG2.out) (by omega))
      clear hcur hg F1
      go_wp2_with fail
      refine F2.out.mono ?_
      rintro e w3 ⟨y, rfl, hy0, hy1, hcur, hg⟩
      have HG3 := Lib.hid (grown_trans HG2.out hg)
      have HC3 := Lib.hid hcur
      obtain ⟨hm0, hm1⟩ := mul_fit x y hx0 (by omega) hy0 (by omega)
      clear hcur hg F2
      go_wp2
      go_ret
      exact ⟨_, rfl, by omega, by omega, HC3.out, HG3.out⟩
    · have e1 : (r == 1) = false := by simpa using h1
      by_cases h2 : r = 2
      · have e2 : (r == 2) = true := by simp [h2]
        have F1 := Lib.hid (below_any w1 C a len cap 100000 hlen HC.out (HD.out.grown HG.out) (by omega))
        clear h0 h1 h2
        go_wp2_with fail
        refine F1.out.mono ?_
        rintro e w2 ⟨x, rfl, hx0, hx1, hcur, hg⟩
        have HG2 := Lib.hid (grown_trans HG.out hg)
        have HC2 := Lib.hid hcur
        clear hcur hg F1
        go_wp2
        go_ret
        exact ⟨_, rfl, by omega, by omega, HC2.out, HG2.out⟩
      · have e2 : (r == 2) = false := by simpa using h2
        have F1 := Lib.hid (below_any w1 C a len cap 70000 hlen HC.out (HD.out.grown HG.out) (by omega))
        clear h0 h1 h2
        go_wp2_with fail
        refine F1.out.mono ?_
        rintro e w2 ⟨x, rfl, hx0, hx1, hcur, hg⟩
        have HG2 := Lib.hid (grown_trans HG.out hg)
        have HC2 := Lib.hid hcur
        clear hcur hg F1
        go_wp2
        go_ret
        exact ⟨_, rfl, by omega, by omega, HC2.out, HG2.out⟩
theorem below_of {w w1 w2 : World} (hb : Below w.heap.size w w1) (hg : w1.grownBy w2 (some w.heap.size)) : Below w.heap.size w w2 :=
  hb.grown hg hb.size (fun k hk => by cases hk; exact Nat.le_refl _)
set_option maxHeartbeats 2000000 in
set_option maxRecDepth 1000000 in
theorem dvar_any (w : World) (a : Option Addr) (len cap : Nat) (hlen : len ≤ 1048576) (hd : CodeIn w a len) :
    Calls Tryd.prog 7 #[.slice a len cap] w fun e w' => ∃ n : Int, e = .returned (.int .i64 n) ∧ -9223372036854775808 ≤ n ∧ n ≤ 9223372036854775807 ∧ Below w.heap.size w w' := by
  have F := Lib.hid (new_any w a len cap hlen hd)
  clear hd
  go_enter Tryd.func7, Tryd.ntmps7
  go_wp2_with fail
  refine F.out.mono ?_
  rintro e w1 ⟨rfl, hcur, hda, hbel⟩
  have F1 := Lib.hid (num_any w1 w.heap.size a len cap hlen hcur hda)
  have HB := Lib.hid hbel
  clear hcur hda hbel F
  go_wp2_with fail
  refine F1.out.mono ?_
  rintro e w2 ⟨n, rfl, hn0, hn1, hcur, hg⟩
  have HB2 := Lib.hid (below_of HB.out hg)
  clear hcur hg F1
  go_wp2
  go_ret
  exact ⟨_, rfl, hn0, hn1, HB2.out⟩
set_option maxHeartbeats 2000000 in
set_option maxRecDepth 1000000 in
theorem dhex_any (w : World) (a : Option Addr) (len cap : Nat) (hlen : len ≤ 1048576) (hd : CodeIn w a len) :
    Calls Tryd.prog 8 #[.slice a len cap] w fun e w' => ∃ t : List UInt8, e = .returned (strV t) ∧ t.length ≤ 40 ∧ Below w.heap.size w w' := by
  have F := Lib.hid (new_any w a len cap hlen hd)
  clear hd
  go_enter Tryd.func8, Tryd.ntmps8
  go_wp2_with fail
  refine F.out.mono ?_
  rintro e w1 ⟨rfl, hcur, hda, hbel⟩
  have F1 := Lib.hid (text_any w1 w.heap.size a len cap 40 hlen (by omega) hcur hda)
  have HB := Lib.hid hbel
  clear hcur hda hbel F
  go_wp2_with fail
  refine F1.out.mono ?_
  rintro e w2 ⟨t, rfl, ht, hcur, hg⟩
  have HB2 := Lib.hid (below_of HB.out hg)
  clear hcur hg F1
  go_wp2
  go_ret
  exact ⟨t, rfl, ht, HB2.out⟩
set_option maxHeartbeats 2000000 in
set_option maxRecDepth 1000000 in
theorem dfix_any (w : World) (a : Option Addr) (len cap : Nat) (hlen : len ≤ 1048576) (hd : CodeIn w a len) :
    Calls Tryd.prog 11 #[.slice a len cap] w fun e w' => ∃ n m : Int, e = .returned (.tuple #[.int .i64 n, .int .i64 m]) ∧ -9223372036854775808 ≤ n ∧ n ≤ 9223372036854775807 ∧ -1 ≤ m ∧ m ≤ 8 ∧ Below w.heap.size w w' := by
  have F := Lib.hid (new_any w a len cap hlen hd)
  clear hd
  go_enter Tryd.func11, Tryd.ntmps11
  go_wp2_with fail
  refine F.out.mono ?_
  rintro e w1 ⟨rfl, hcur, hda, hbel⟩
  have F1 := Lib.hid (num_any w1 w.heap.size a len cap hlen hcur hda)
  have HB := Lib.hid hbel
  have HDA := Lib.hid hda
  clear hcur hda hbel F
  go_wp2_with fail
  refine F1.out.mono ?_
  rintro e w2 ⟨n, rfl, hn0, hn1, hcur, hg⟩
  have HB2 := Lib.hid (below_of HB.out hg)
  have F2 := Lib.hid (below_any w2 w.heap.size a len cap 10 hlen hcur (HDA.out.grown hg) (by omega))
  clear hcur hg F1
  go_wp2_with fail
  refine F2.out.mono ?_
  rintro e w3 ⟨m, rfl, hm0, hm1, hcur, hg⟩
  have HB3 := Lib.hid (below_of HB2.out hg)
  clear hcur hg F2
  go_wp2
  go_ret2
  exact ⟨n, m - 1, rfl, hn0, hn1, by omega, by omega, HB3.out⟩
end Go.Proofs.YtlbijhfjlgafeaaDoor
