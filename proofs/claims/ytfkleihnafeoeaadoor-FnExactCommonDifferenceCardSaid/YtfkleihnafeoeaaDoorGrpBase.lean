/- Lists of ints in memory: the copies that the laws make of a slice and of a group, their sizes, their equality. At every list of at most 2^20 ints. -/
import Derived.Test.YtfkleihnafeoeaaDoorRows
import Derived.WalkKit
import Derived.LoopTactic
import Derived.IntWalk
import Derived.Below
import Derived.OneCell
import Derived.Lib.Hide
import Derived.Lib.SmallJoins
import Derived.Laws.OwnMore
import Derived.Outline
import Derived.Deep.RegionLaw
import Derived.Deep.RegionWith
import Derived.BigQuiet
namespace Go.Proofs.YtfkleihnafeoeaaDoor
open Go.RowKit
set_option maxRecDepth 1000000
abbrev iV (n : Int) : Value := .int .i64 n
theorem intInfo : (Tryd.prog.info? 3).map (fun i => (i.zero, i.size, i.bytes)) = some (some (.int .i64 0), 1, 8) := by kernel_rfl
/-- A row of ints that can be read: none, or a run of cells of a block that is there. -/
def Ints (w : World) (a : Option Addr) (l : List Int) : Prop :=
  l = [] ∨ ∃ b off, a = some ⟨b, off, none⟩ ∧ b < w.heap.size ∧ ∀ i, i < l.length → w.cell? ⟨b, off + i, none⟩ = some (.int .i64 (l.getD i 0))
theorem Ints.below {w w' : World} {a : Option Addr} {l : List Int} (h : Ints w a l) {B : Nat} (hB : B = w.heap.size) (hb : Below B w w') : Ints w' a l := by
  subst hB
  rcases h with h | ⟨b, off, ha, hlt, hc⟩
  · exact .inl h
  · exact .inr ⟨b, off, ha, Nat.lt_of_lt_of_le hlt hb.size, fun i hi => by rw [hb.cell (by simpa using hlt)]; exact hc i hi⟩
theorem ints_alloc {w : World} {a : Option Addr} {l : List Int} (h : Ints w a l) (o : Obj) : Ints (w.alloc o) a l := h.below rfl (Joins.below_alloc1 w o)
/-- The first k of the ints, and zeros behind them. -/
def rowI (l : List Int) (k : Nat) : List Value := (l.take k).map (Value.int .i64) ++ List.replicate (l.length - k) (.int .i64 0)
theorem rowI_zero (l : List Int) : rowI l 0 = (madeCells #[Value.int .i64 0] l.length).toList := by rw [toList_madeCells_one]; simp [rowI]
theorem rowI_full (l : List Int) : rowI l l.length = l.map (Value.int .i64) := by simp [rowI]
theorem rowI_at (l : List Int) (k j : Nat) (hj : j < l.length) : (rowI l k)[j]? = some (.int .i64 (if j < k then l.getD j 0 else 0)) := by
  unfold rowI
  by_cases h : j < k
  · rw [if_pos h, List.getElem?_append_left (by simp; omega)]
    simp [h, List.getD, hj]
  · rw [if_neg h, List.getElem?_append_right (by simp; omega)]
    rw [List.getElem?_replicate, if_pos (by simp; omega)]
theorem rowI_len (l : List Int) (k : Nat) (hk : k ≤ l.length) : (rowI l k).length = l.length := by simp [rowI]; omega
theorem rowI_set (l : List Int) (k : Nat) (hk : k < l.length) : (rowI l k).set k (.int .i64 (l.getD k 0)) = rowI l (k + 1) := by
  apply List.ext_getElem?
  intro j
  by_cases hj : j < l.length
  · rw [List.getElem?_set, rowI_at _ _ _ hj]
    by_cases h : k = j
    · subst h; rw [if_pos rfl, if_pos (by rw [rowI_len _ _ (by omega)]; exact hk), rowI_at _ _ _ hj, if_pos (by omega)]
    · rw [if_neg h, rowI_at _ _ _ hj]
      by_cases h1 : j < k
      · rw [if_pos h1, if_pos (by omega)]
      · rw [if_neg h1, if_neg (by omega)]
  · rw [List.getElem?_eq_none (by rw [List.length_set, rowI_len _ _ (by omega)]; omega), List.getElem?_eq_none (by rw [rowI_len _ _ (by omega)]; omega)]
/-- A row of the call's own reads as its ints. -/
theorem ints_own {w : World} {B g cap : Nat} {l : List Int} (h : w.ownsRow B 3 1 (.slice (some ⟨g, 0, none⟩) l.length cap) l.length (l.map (Value.int .i64))) : Ints w (some ⟨g, 0, none⟩) l := by
  by_cases h0 : l = []
  · exact .inl h0
  · refine .inr ⟨g, 0, rfl, (h.lt g rfl).2, fun i hi => ?_⟩
    have hg := h.cellAt i (by omega)
    rw [show (⟨g, 0 + i, none⟩ : Addr) = ⟨g, i, none⟩ by simp, hg]
    simp [List.getD, hi]
theorem toInts_any (w : World) (a : Option Addr) (l : List Int) (n cap : Nat) (hn : n = l.length) (hl : n ≤ 1048576) (hi : Ints w a l) :
    Calls Tryd.prog 23 #[.slice a n cap] w fun e w' => e = .returned (.slice (some ⟨w.heap.size, 0, none⟩) n n) ∧ w'.ownsRow w.heap.size 3 1 (.slice (some ⟨w.heap.size, 0, none⟩) n n) n (l.map (Value.int .i64)) ∧ Below w.heap.size w w' := by
  have HI := Lib.hid hi
  have HN := Lib.hid hn
  clear hi hn
  obtain ⟨i0, hi, hz0, hz1, hz2⟩ := info_parts intInfo
  go_enter Tryd.func23, Tryd.ntmps23
  go_wp2_with (at_make; refine wpList_make_full _ rfl _ _ 22 rfl w.heap.size 3 i0 (.int .i64 0) 1 Tryd.underlying22 hi hz0 hz1 .i64 .i64 _ _ n rfl rfl ?c0 ?c00 ?c1 ?c2 ?c3 ?_)
  case c0 => rfl
  case c00 => rfl
  case c1 => rw [hz2]; omega
  case c2 => unfold maxLen; omega
  case c3 => omega
  intro w1 hown hgrow
  have hrow : w1.ownsRow w.heap.size 3 1 (.slice (some ⟨w.heap.size, 0, none⟩) n n) n (rowI l 0) := by rw [rowI_zero, ← HN.out]; simpa using hown
  have hbel1 : Below w.heap.size w w1 := (Below.refl _ w).grown hgrow (Nat.le_refl _) (fun q hq => by cases hq)
  clear hown hgrow
  go_wp2
  go_loopw [4] (fun i wr => ∃ k : Nat, k ≤ n ∧ i = .int .i64 k ∧ wr.ownsRow w.heap.size 3 1 (.slice (some ⟨w.heap.size, 0, none⟩) n n) n (rowI l k) ∧ Below w.heap.size w wr) (fun i _ => n - (intOf i).toNat)
  case atStart => exact ⟨0, Nat.zero_le _, rfl, hrow, hbel1⟩
  case round =>
    obtain ⟨k, hk, rfl, hr, hbel⟩ := hrel
    by_cases hlt : k < n
    · have hkl : k < l.length := by rw [← HN.out]; exact hlt
      rcases HI.out with h0 | ⟨b, off, ha, hbl, hc⟩
      · rw [h0] at hkl; simp at hkl
      · subst ha
        have hread : wr.cell? ⟨b, off + k, none⟩ = some (.int .i64 (l.getD k 0)) := by rw [hbel.cell (by simpa using hbl)]; exact hc k hkl
        have hfr := hr.frozenAt k
        have hcell : wr.cell? ⟨w.heap.size, k, none⟩ = some (.int .i64 0) := (hr.cellAt k (by omega)).trans (by rw [rowI_at _ _ _ hkl, if_neg (by omega)])
        have hst := (hr.stored k (.int .i64 (l.getD k 0))).1
        rw [rowI_set _ _ hkl] at hst
        have HST := Lib.hid hst
        generalize l.getD k 0 = z at hread HST
        clear hst hc hkl
        go_wp2
        go_roundw
        case rel => exact ⟨k + 1, by omega, by go_num, HST.out, hbel.setCell (Nat.le_refl _) _⟩
        case measure => simp [intOf]; omega
    · obtain rfl : k = n := by omega
      have hr2 := hr
      rw [show rowI l k = l.map (Value.int .i64) by rw [HN.out, rowI_full]] at hr2
      have HR := Lib.hid hr2
      clear hr hr2
      go_wp2
      go_ret
      exact ⟨rfl, HR.out, hbel⟩
theorem grownG_trans {a b c : World} {row : Option Nat} (h : a.grownBy b row) (k : b.grownBy c row) : a.grownBy c row :=
  ⟨k.os.trans h.os, k.tape.trans h.tape, k.output.trans h.output, Nat.le_trans h.size k.size, fun i hi hr => (k.block i (Nat.lt_of_lt_of_le hi h.size) hr).trans (h.block i hi hr)⟩
theorem grownG_set {a w : World} {C : Nat} (h : a.grownBy w (some C)) (j : Nat) (v : Value) : a.grownBy (w.setCell ⟨C, j, none⟩ v) (some C) :=
  grownG_trans h ⟨rfl, rfl, rfl, by simp, fun k _ hk => Below.heap_setCell w ⟨C, j, none⟩ v k (fun e => hk (by simp [e]))⟩
theorem keepC {B : Nat} {w w' : World} {p : Addr} {v : Value} (hb : Below B w w') (hp : p.block < B) (h : w.cell? p = some v) : w'.cell? p = some v := (hb.cell hp).trans h
theorem keepF {B : Nat} {w w' : World} {p : Addr} {v : Bool} (hb : Below B w w') (hp : p.block < B) (h : w.frozen? p = v) : w'.frozen? p = v := (hb.frozen hp).trans h
/-- The cell of a variable that lies in a block of its own. -/
theorem newC (w : World) (v : Value) (t : TypeId) {n : Nat} (hn : n = w.heap.size) : (w.alloc (.cells #[v] t)).cell? ⟨n, 0, none⟩ = some v := by subst hn; simp
theorem newF (w : World) (v : Value) (t : TypeId) {n : Nat} (hn : n = w.heap.size) : (w.alloc (.cells #[v] t)).frozen? ⟨n, 0, none⟩ = false := by subst hn; simp
theorem toGroup_any (w : World) (a : Option Addr) (l : List Int) (n cap : Nat) (hn : n = l.length) (hl : n ≤ 1048576) (hi : Ints w a l) :
    Calls Tryd.prog 9 #[.agg #[.slice a n cap]] w fun e w' => ∃ g, e = .returned (.agg #[.slice (some ⟨g, 0, none⟩) n n]) ∧ w'.ownsRow w.heap.size 3 1 (.slice (some ⟨g, 0, none⟩) n n) n (l.map (Value.int .i64)) ∧ Below w.heap.size w w' := by
  have HI := Lib.hid (ints_alloc (ints_alloc (ints_alloc hi (.cells #[.slice a n cap] 24)) (.cells #[.slice none 0 0] 27)) (.cells #[.slice none 0 0] 27))
  have C1 := newC ((w.alloc (.cells #[.slice a n cap] 24)).alloc (.cells #[.slice none 0 0] 27)) (.slice none 0 0) 27 (n := w.heap.size + 1 + 1) (by simp)
  have C2 := keepC (Joins.below_alloc1 _ (.cells #[.slice none 0 0] 27)) (by simp) (newC (w.alloc (.cells #[.slice a n cap] 24)) (.slice none 0 0) 27 (n := w.heap.size + 1) (by simp))
  have F1 := newF ((w.alloc (.cells #[.slice a n cap] 24)).alloc (.cells #[.slice none 0 0] 27)) (.slice none 0 0) 27 (n := w.heap.size + 1 + 1) (by simp)
  have F2 := keepF (Joins.below_alloc1 _ (.cells #[.slice none 0 0] 27)) (by simp) (newF (w.alloc (.cells #[.slice a n cap] 24)) (.slice none 0 0) 27 (n := w.heap.size + 1) (by simp))
  have HN := Lib.hid hn
  clear hi hn
  go_enter Tryd.func9, Tryd.ntmps9
  go_wp2_with (go_at_call 23; refine (toInts_any _ _ _ _ _ HN.out hl HI.out).mono ?_; rintro e w2 ⟨rfl, ho, hb⟩; have ho2 : w2.ownsRow (w.heap.size + 1 + 1 + 1) 3 1 (.slice (some ⟨w.heap.size + 1 + 1 + 1, 0, none⟩) n n) n (l.map (Value.int .i64)) := (by simpa using ho); have hb2 : Below (w.heap.size + 1 + 1 + 1) _ _ := (by simpa using hb); have c1 := keepC hb (by simp) C1; have c2 := keepC hb (by simp) C2; have f1 := keepF hb (by simp) F1; have f2 := keepF hb (by simp) F2)
  refine bodyPost_ret (v := .agg #[.slice (some ⟨w.heap.size + 1 + 1 + 1, 0, none⟩) n n]) (by simp [results, Tryd.results9, go_sem, c2]) rfl ⟨_, rfl, ?_, ?_⟩
  · exact ownsRow_setCell_other (ownsRow_setCell_other (Joins.ownsRow_le ho2 (by omega)) (by simp [Value.ownBlock] <;> omega) _) (by simp [Value.ownBlock] <;> omega) _
  · exact Below.setCell (B := w.heap.size) (Below.setCell (B := w.heap.size) ((Joins.below_alloc3 w _ _ _).trans (hb2.mono (by omega))) (by simp; omega) _) (by simp) _
theorem szInts_no (w : World) (a : Option Addr) (n cap : Nat) (left : Int) (h0 : left ≤ 1048576) (h : (n : Int) ≤ left) :
    Calls Tryd.prog 22 #[.slice a n cap, .int .i64 left] w fun e w' => e = .returned (.int .i64 (left - n)) ∧ w = w' := by
  go_enter Tryd.func22, Tryd.ntmps22
  go_wp2
  go_ret
  exact ⟨rfl, rfl⟩
theorem szInts_yes (w : World) (a : Option Addr) (n cap : Nat) (left : Int) (h0 : 0 ≤ left) (hm : n ≤ 9223372036854775807) (h : left < (n : Int)) :
    Calls Tryd.prog 22 #[.slice a n cap, .int .i64 left] w fun e w' => e = .returned (.int .i64 (-1)) ∧ w = w' := by
  go_enter Tryd.func22, Tryd.ntmps22
  go_wp2
  go_ret
  exact ⟨rfl, rfl⟩
theorem szGroup_no (w : World) (a : Option Addr) (n cap : Nat) (left : Int) (h0 : left ≤ 1048576) (h : (n : Int) ≤ left) :
    Calls Tryd.prog 7 #[.agg #[.slice a n cap], .int .i64 left] w fun e w' => e = .returned (.int .i64 (left - n)) ∧ Below w.heap.size w w' := by
  go_enter Tryd.func7, Tryd.ntmps7
  go_wp2_with (go_at_call 22; refine (szInts_no _ _ _ _ _ h0 h).mono ?_; rintro e w' ⟨rfl, rfl⟩)
  go_ret
  exact ⟨rfl, Joins.below_alloc1 _ _⟩
theorem szGroup_yes (w : World) (a : Option Addr) (n cap : Nat) (left : Int) (h0 : 0 ≤ left) (hm : n ≤ 9223372036854775807) (h : left < (n : Int)) :
    Calls Tryd.prog 7 #[.agg #[.slice a n cap], .int .i64 left] w fun e w' => e = .returned (.int .i64 (-1)) ∧ Below w.heap.size w w' := by
  go_enter Tryd.func7, Tryd.ntmps7
  go_wp2_with (go_at_call 22; refine (szInts_yes _ _ _ _ _ h0 hm h).mono ?_; rintro e w' ⟨rfl, rfl⟩)
  go_ret
  exact ⟨rfl, Joins.below_alloc1 _ _⟩
theorem eqInts_same (w : World) (a b : Option Addr) (l : List Int) (n cap cap2 : Nat) (hn : n = l.length) (hl : n ≤ 1048576) (ha : Ints w a l) (hb : Ints w b l) :
    Calls Tryd.prog 14 #[.slice a n cap, .slice b n cap2] w fun e w' => e = .returned (.bool true) ∧ Below w.heap.size w w' := by
  have HA := Lib.hid ha
  have HB := Lib.hid hb
  have HN := Lib.hid hn
  clear ha hb hn
  go_enter Tryd.func14, Tryd.ntmps14
  go_wp2
  go_loopw [5] (fun i wr => ∃ k : Nat, k ≤ n ∧ i = .int .i64 k ∧ Below w.heap.size w wr) (fun i _ => n - (intOf i).toNat)
  case atStart => exact ⟨0, Nat.zero_le _, rfl, Below.refl _ _⟩
  case round =>
    obtain ⟨k, hk, rfl, hbel⟩ := hrel
    by_cases hlt : k < n
    · have hkl : k < l.length := by rw [← HN.out]; exact hlt
      rcases HA.out with h0 | ⟨x, off, h1, hbl, hc⟩
      · rw [h0] at hkl; simp at hkl
      rcases HB.out with h0 | ⟨x2, off2, h2, hbl2, hc2⟩
      · rw [h0] at hkl; simp at hkl
      subst h1 h2
      have r1 : wr.cell? ⟨x, off + k, none⟩ = some (.int .i64 (l.getD k 0)) := by rw [hbel.cell (by simpa using hbl)]; exact hc k hkl
      have r2 : wr.cell? ⟨x2, off2 + k, none⟩ = some (.int .i64 (l.getD k 0)) := by rw [hbel.cell (by simpa using hbl2)]; exact hc2 k hkl
      generalize l.getD k 0 = z at r1 r2
      have hz : (z != z) = false := by simp
      clear hc hc2 hkl
      go_wp2
      go_quiet (fail)
      go_wp2
      go_roundw
      case rel => exact ⟨k + 1, by omega, by go_num, hbel.trans (Joins.below_draws _ _ _)⟩
      case measure => simp [intOf]; omega
    · obtain rfl : k = n := by omega
      go_wp2
      go_ret
      exact ⟨rfl, hbel⟩
theorem eqGroup_same (w : World) (a b : Option Addr) (l : List Int) (n cap cap2 : Nat) (hn : n = l.length) (hl : n ≤ 1048576) (ha : Ints w a l) (hb : Ints w b l) :
    Calls Tryd.prog 11 #[.agg #[.slice a n cap], .agg #[.slice b n cap2]] w fun e w' => e = .returned (.bool true) ∧ Below w.heap.size w w' := by
  have HA := Lib.hid (ints_alloc (ints_alloc ha (.cells #[.slice a n cap] 27)) (.cells #[.slice b n cap2] 27))
  have HB := Lib.hid (ints_alloc (ints_alloc hb (.cells #[.slice a n cap] 27)) (.cells #[.slice b n cap2] 27))
  have HN := Lib.hid hn
  clear ha hb hn
  go_enter Tryd.func11, Tryd.ntmps11
  go_wp2_with (go_at_call 14; refine (eqInts_same _ _ _ _ _ _ _ HN.out hl HA.out HB.out).mono ?_; rintro e w' ⟨rfl, hb⟩)
  go_ret
  exact ⟨rfl, (Joins.below_alloc2 _ _ _).trans (hb.mono (by simp <;> omega))⟩
/-- The ints from k on. -/
def upI (k n : Nat) : List Int := (List.range n).map fun j => ((k + j : Nat) : Int)
theorem upI_len (k n : Nat) : (upI k n).length = n := by simp [upI]
theorem upI_at (k n j : Nat) (h : j < n) : (upI k n).getD j 0 = ((k + j : Nat) : Int) := by simp [upI, List.getD, h]
/-- A row whose first j ints are numbered. -/
def mixI (k : Nat) (l : List Int) (j : Nat) : List Value := ((upI k j) ++ l.drop j).map (Value.int .i64)
theorem mixI_set (k : Nat) (l : List Int) (j : Nat) (h : j < l.length) : (mixI k l j).set j (.int .i64 ((k + j : Nat) : Int)) = mixI k l (j + 1) := by
  unfold mixI
  rw [show ((k + j : Nat) : Int) = id ((k + j : Nat) : Int) from rfl, ← List.map_set]
  congr 1
  rw [List.set_append_right _ _ (by rw [upI_len]; exact Nat.le_refl _), upI_len, Nat.sub_self, List.drop_eq_getElem_cons h, List.set_cons_zero]
  simp [upI, List.range_succ]
theorem markInts_any (w : World) (B g : Nat) (l : List Int) (n cap : Nat) (k : Int) (kn : Nat) (hk : k = (kn : Int)) (hn : n = l.length) (hl : n ≤ 1048576) (hkn : kn ≤ 1048576)
    (ho : w.ownsRow B 3 1 (.slice (some ⟨g, 0, none⟩) n cap) n (l.map (Value.int .i64))) :
    Calls Tryd.prog 16 #[.slice (some ⟨g, 0, none⟩) n cap, .int .i64 k] w fun e w' => e = .returned (.int .i64 ((kn + n : Nat) : Int)) ∧ w'.ownsRow B 3 1 (.slice (some ⟨g, 0, none⟩) n cap) n ((upI kn n).map (Value.int .i64)) ∧ w.grownBy w' (some g) := by
  subst hk
  have hrow : w.ownsRow B 3 1 (.slice (some ⟨g, 0, none⟩) n cap) n (mixI kn l 0) := by simpa [mixI, upI] using ho
  have HN := Lib.hid hn
  clear hn ho
  go_enter Tryd.func16, Tryd.ntmps16
  go_wp2
  go_loopw [1, 5] (fun k i wr => ∃ j : Nat, j ≤ n ∧ i = .int .i64 j ∧ k = .int .i64 ((kn + j : Nat) : Int) ∧ wr.ownsRow B 3 1 (.slice (some ⟨g, 0, none⟩) n cap) n (mixI kn l j) ∧ w.grownBy wr (some g)) (fun _ i _ => n - (intOf i).toNat)
  case atStart => exact ⟨0, Nat.zero_le _, rfl, rfl, hrow, World.grownBy.refl _ _⟩
  case round =>
    obtain ⟨j, hj, rfl, rfl, hr, hg⟩ := hrel
    by_cases hlt : j < n
    · have hjl : j < l.length := by rw [← HN.out]; exact hlt
      have hfr := hr.frozenAt j
      have hcell := hr.cellAt j (by omega)
      have hcv : ∃ v, (mixI kn l j)[j]? = some v := ⟨_, List.getElem?_eq_getElem (by simp [mixI, upI_len]; omega)⟩
      obtain ⟨v, hv⟩ := hcv
      rw [hv] at hcell
      have hst := (hr.stored j (.int .i64 ((kn + j : Nat) : Int))).1
      rw [mixI_set _ _ _ hjl] at hst
      have HST := Lib.hid hst
      have HG := Lib.hid (grownG_set hg j (.int .i64 ((kn + j : Nat) : Int)))
      clear hst hv hjl hr hg
      go_wp2
      go_roundw
      case rel => exact ⟨j + 1, by omega, by go_num, by go_num, HST.out, HG.out⟩
      case measure => simp [intOf]; omega
    · obtain rfl : j = n := by omega
      have HR := Lib.hid hr
      have hfull : mixI kn l j = (upI kn j).map (Value.int .i64) := by rw [HN.out]; simp [mixI]
      rw [hfull] at hr
      go_wp2
      go_ret
      exact ⟨rfl, hr, hg⟩
theorem heldInts_any (w : World) (a : Option Addr) (n cap : Nat) (k : Int) (kn : Nat) (hk : k = (kn : Int)) (hl : n ≤ 1048576) (hkn : kn ≤ 1048576) (hi : Ints w a (upI kn n)) :
    Calls Tryd.prog 17 #[.slice a n cap, .int .i64 k] w fun e w' => e = .returned (.int .i64 ((kn + n : Nat) : Int)) ∧ Below w.heap.size w w' := by
  subst hk
  have HI := Lib.hid hi
  clear hi
  go_enter Tryd.func17, Tryd.ntmps17
  go_wp2
  go_loopw [1, 5] (fun k i wr => ∃ j : Nat, j ≤ n ∧ i = .int .i64 j ∧ k = .int .i64 ((kn + j : Nat) : Int) ∧ Below w.heap.size w wr) (fun _ i _ => n - (intOf i).toNat)
  case atStart => exact ⟨0, Nat.zero_le _, rfl, rfl, Below.refl _ _⟩
  case round =>
    obtain ⟨j, hj, rfl, rfl, hbel⟩ := hrel
    by_cases hlt : j < n
    · rcases HI.out with h0 | ⟨x, off, h1, hbl, hc⟩
      · exfalso; have := upI_len kn n; rw [h0] at this; simp at this; omega
      subst h1
      have r1 : wr.cell? ⟨x, off + j, none⟩ = some (.int .i64 ((kn + j : Nat) : Int)) := by rw [hbel.cell (by simpa using hbl), hc j (by rw [upI_len]; exact hlt), upI_at _ _ _ hlt]
      have hz : (((kn + j : Nat) : Int) != ((kn + j : Nat) : Int)) = false := by simp
      clear hc
      go_wp2
      go_roundw
      case rel => exact ⟨j + 1, by omega, by go_num, by go_num, hbel⟩
      case measure => simp [intOf]; omega
    · obtain rfl : j = n := by omega
      go_wp2
      go_ret
      exact ⟨rfl, hbel⟩
end Go.Proofs.YtfkleihnafeoeaaDoor
