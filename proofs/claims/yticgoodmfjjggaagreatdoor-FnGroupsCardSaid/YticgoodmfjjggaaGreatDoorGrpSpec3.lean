/- The contracts of the document's reading of groups (spec): sums, negatives, multiples and orders of elements. -/
import Derived.Test.YticgoodmfjjggaaGreatDoorGrpMath2
namespace Go.Proofs.YticgoodmfjjggaaGreatDoor
open Go.RowKit
set_option maxRecDepth 1000000
/-- Whether x is an element. -/
def isE (l : List Int) (x : Int) : Bool := decide (0 ≤ x) && decide (x < ordN l)
theorem isE_true {l : List Int} {x : Int} (h : isE l x = true) : grpB l = true ∧ 0 ≤ x ∧ x < prodI l ∧ x ≤ 23 := by
  simp only [isE, Bool.and_eq_true, decide_eq_true_eq] at h
  cases hg : grpB l with
  | false => rw [ordN_no hg] at h; omega
  | true =>
    rw [ordN_grp hg] at h
    have := (grpB_true hg).2.2
    exact ⟨rfl, h.1, h.2, by omega⟩
/-- The document's sum. -/
def addE (l : List Int) (x y : Int) : Int := if isE l x = true then (if isE l y = true then addN l x y else -1) else -1
theorem sAddE (w : World) (a : Option Addr) (l : List Int) (n cap : Nat) (x y : Int) (hn : n = l.length) (hm : n ≤ 9223372036854775807) (hi : Ints w a l) :
    Calls Tryz.prog 9 #[.agg #[.slice a n cap], .int .i64 x, .int .i64 y] w fun e w' => e = .returned (.int .i64 (addE l x y)) ∧ Below w.heap.size w w' := by
  have HI := Lib.hid (ints_alloc hi (.cells #[.slice a n cap] 26))
  have HN := Lib.hid hn
  have C1 := newC w (.slice a n cap) 26 (n := w.heap.size) rfl
  have HB := Lib.hid (Joins.below_alloc1 w (.cells #[.slice a n cap] 26))
  clear hi hn
  cases hx : isE l x with
  | false =>
    have HX : Hid (false = isE l x) := Lib.hid hx.symm
    rw [show addE l x y = -1 by unfold addE; rw [if_neg (by simp [hx])]]
    clear hx
    go_enter Tryz.func9, Tryz.ntmps9
    go_wp2_with (go_at_call 71; refine (sIs _ _ _ _ _ _ _ HX.out HN.out hm HI.out).mono ?_; rintro e w1 ⟨rfl, hb1⟩; have c1 := keepC hb1 (by simp) C1)
    go_ret
    exact ⟨rfl, HB.out.trans (hb1.mono (by simp))⟩
  | true =>
    have HX : Hid (true = isE l x) := Lib.hid hx.symm
    cases hy : isE l y with
    | false =>
      have HY : Hid (false = isE l y) := Lib.hid hy.symm
      rw [show addE l x y = -1 by unfold addE; rw [if_pos hx, if_neg (by simp [hy])]]
      clear hx hy
      go_enter Tryz.func9, Tryz.ntmps9
      go_wp2_with (first
        | (go_at_call 71; refine (sIs _ _ _ _ _ _ _ HY.out HN.out hm HI1.out).mono ?_; rintro e w2 ⟨rfl, hb2⟩; have c2 := keepC hb2 (Nat.lt_of_lt_of_le (by simp) hb1.size) c1)
        | (go_at_call 71; refine (sIs _ _ _ _ _ _ _ HX.out HN.out hm HI.out).mono ?_; rintro e w1 ⟨rfl, hb1⟩; have c1 := keepC hb1 (by simp) C1; have HI1 := Lib.hid (HI.out.below rfl hb1)))
      go_ret
      exact ⟨rfl, HB.out.trans ((hb1.mono (by simp)).trans (hb2.mono (Nat.le_trans (by simp) hb1.size)))⟩
    | true =>
      have HY : Hid (true = isE l y) := Lib.hid hy.symm
      rw [show addE l x y = addN l x y by unfold addE; rw [if_pos hx, if_pos hy]]
      have BX := Lib.hid (isE_true hx)
      have BY := Lib.hid (isE_true hy)
      clear hx hy
      go_enter Tryz.func9, Tryz.ntmps9
      go_wp2_with (first
        | (go_at_call 72; refine (sAdd _ _ _ _ _ _ _ BX.out.2.1 BX.out.2.2.2 BY.out.2.1 BY.out.2.2.2 HN.out BX.out.1 HI2.out).mono ?_; rintro e w3 ⟨rfl, hb3⟩)
        | (go_at_call 71; refine (sIs _ _ _ _ _ _ _ HY.out HN.out hm HI1.out).mono ?_; rintro e w2 ⟨rfl, hb2⟩; have c2 := keepC hb2 (Nat.lt_of_lt_of_le (by simp) hb1.size) c1; have HI2 := Lib.hid (HI1.out.below rfl hb2))
        | (go_at_call 71; refine (sIs _ _ _ _ _ _ _ HX.out HN.out hm HI.out).mono ?_; rintro e w1 ⟨rfl, hb1⟩; have c1 := keepC hb1 (by simp) C1; have HI1 := Lib.hid (HI.out.below rfl hb1)))
      go_ret
      exact ⟨rfl, HB.out.trans ((hb1.mono (by simp)).trans ((hb2.mono (Nat.le_trans (by simp) hb1.size)).trans (hb3.mono (Nat.le_trans (by simp) (Nat.le_trans hb1.size hb2.size)))))⟩
end Go.Proofs.YticgoodmfjjggaaGreatDoor
