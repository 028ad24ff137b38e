/- Merged: NumI CosI. -/
import Derived.Test.YtehdneppleifdaaDoorMGAL
import Derived.Test.YtehdneppleifdaaDoorMGAK
import Derived.Test.YtehdneppleifdaaDoorMGAM
import Derived.Test.YtehdneppleifdaaDoorCosSpec
namespace Go.Proofs.YtehdneppleifdaaDoor
open Go.RowKit Go.Shelf
attribute [local go_sem] Oper.semAt_some
set_option maxRecDepth 1000000
theorem eleInfo : (Tryd.prog.info? 48).map (fun i => (i.zero, i.size, i.bytes)) = some (some (.int .u64 0), 1, 8) := by kernel_rfl
/-- A row of sets that can be read. -/
def Els (w : World) (a : Option Addr) (L : List Nat) : Prop := L = [] ∨ ∃ b off, a = some ⟨b, off, none⟩ ∧ b < w.heap.size ∧ ∀ i, i < L.length → w.cell? ⟨b, off + i, none⟩ = some (.int .u64 ((L.getD i 0 : Nat) : Int))
def elV (x : Nat) : Value := .int .u64 ((x : Nat) : Int)
theorem els_own {w : World} {B n : Nat} {v : Value} {L : List Nat} (hn : n = L.length) (h : w.ownsRow B 48 1 v n (L.map elV)) : ∃ a cap, v = .slice a n cap ∧ Els w a L := by
  subst hn
  have h0 := h
  obtain ⟨_, h2⟩ := h
  rcases h2 with ⟨h2, h3⟩ | ⟨g, cap, cur, rfl, _, _⟩
  · have hl : L = [] := by simpa using h3
    subst hl
    exact ⟨none, 0, h2, .inl rfl⟩
  · refine ⟨some ⟨g, 0, none⟩, cap, rfl, ?_⟩
    by_cases hl : L = []
    · exact .inl hl
    · refine .inr ⟨g, 0, rfl, (h0.lt g rfl).2, fun i hi => ?_⟩
      have hg := h0.cellAt i (by omega)
      rw [show (⟨g, 0 + i, none⟩ : Addr) = ⟨g, i, none⟩ by simp, hg]
      simp [List.getD, hi, elV]
theorem Els.below {w w' : World} {a : Option Addr} {L : List Nat} (h : Els w a L) (hb : Below w.heap.size w w') : Els w' a L := by
  rcases h with h | ⟨b, off, h1, h2, h3⟩
  · exact .inl h
  · exact .inr ⟨b, off, h1, Nat.lt_of_lt_of_le h2 hb.size, fun i hi => (hb.cell (by simpa using h2)).trans (h3 i hi)⟩
/-- Sets as their numbers. -/
def NLi (L : List Nat) : List Int := L.map fun (x : Nat) => (x : Int)
theorem NLi_len (L : List Nat) : (NLi L).length = L.length := by simp [NLi]
theorem NLi_at (L : List Nat) (k : Nat) (h : k < L.length) : (NLi L).getD k 0 = ((L.getD k 0 : Nat) : Int) := by simp [NLi, List.getD, h]
end Go.Proofs.YtehdneppleifdaaDoor

namespace Go.Proofs.YtehdneppleifdaaDoor
open Go.RowKit Go.Shelf
attribute [local go_sem] Oper.semAt_some
set_option maxRecDepth 1000000
/-- Where a list has a number first; -1 where it has it not. -/
def idxN (L : List Nat) (v : Nat) : Int := match L.findIdx? (fun y => y == v) with | some i => ((i : Nat) : Int) | none => -1
theorem idxN_yes {L : List Nat} {v k : Nat} (hk : k < L.length) (hp : L.getD k 0 = v) (hn : ∀ j, j < k → L.getD j 0 ≠ v) : idxN L v = (k : Int) := by
  unfold idxN
  rw [idx_yes (k := k) hk (by simpa using hp) (fun j hj => by simpa using hn j hj)]
theorem idxN_no {L : List Nat} {v : Nat} (hn : ∀ j, j < L.length → L.getD j 0 ≠ v) : idxN L v = -1 := by
  unfold idxN
  rw [idx_no (fun j hj => by simpa using hn j hj)]
/-- The cosets as numbers. -/
def cosN (l : List Int) (s : Nat) (R : List Nat) : List Nat := R.map fun y => movN l s y
theorem cosN_len (l : List Int) (s : Nat) (R : List Nat) : (cosN l s R).length = R.length := by simp [cosN]
theorem cosN_snoc (l : List Int) (s : Nat) (R : List Nat) (k : Nat) : cosN l s (R ++ [k]) = cosN l s R ++ [movN l s k] := by simp [cosN]
theorem cosN_ints (l : List Int) (s : Nat) (R : List Nat) : NLi (cosN l s R) = cosL l s R := by simp [cosN, NLi, cosL]
theorem cosN_lt {l : List Int} (hg : grpB l = true) (s : Nat) (R : List Nat) : ∀ x ∈ cosN l s R, x < 16777216 := fun x hx => by
  unfold cosN at hx
  obtain ⟨y, _, rfl⟩ := List.mem_map.1 hx
  exact movN_lt24 hg s y
set_option maxHeartbeats 4000000 in
theorem iCosets {l : List Int} (hg : grpB l = true) (w : World) (s : Nat) (hs : s < 2 ^ (prodI l).toNat) :
    Calls Tryd.prog 45 #[tV (l.getD 0 1) (l.getD 1 1) (l.getD 2 1), .int .u64 s] w fun e w' => ∃ v, e = .returned v ∧ w'.ownsRow w.heap.size 48 1 v (repsK l s (prodI l).toNat).length ((cosN l s (repsK l s (prodI l).toNat)).map elV) ∧ Below w.heap.size w w' := by
  obtain ⟨i0, hi0, hz0, hz1, hz2⟩ := info_parts eleInfo
  have hP := (ords_grp hg).prod
  obtain ⟨P, hPe⟩ : ∃ P : Nat, prodI l = (P : Int) := ⟨(prodI l).toNat, by omega⟩
  have HSH := Lib.hid (fun (W : World) (k : Nat) (hk : (k : Int) < prodI l) => iMov hg W s k hs hk)
  have HPR := Lib.hid (fun (W : World) => iProduct W _ _ _ (tri_grp hg))
  rw [← prod_pad (grpB_true hg).1, hPe] at HPR
  rw [hPe] at hP HSH
  rw [show (prodI l).toNat = P by omega]
  have hP24 : P ≤ 24 := by omega
  have HSL := Lib.hid (fun k => seen_lt (h := s) hg k)
  have HML := Lib.hid (fun k => movN_lt24 hg s k)
  obtain ⟨p, EP⟩ : ∃ p, Hid (l.getD 0 1 = p) := ⟨_, Lib.hid rfl⟩
  obtain ⟨q, EQ⟩ : ∃ q, Hid (l.getD 1 1 = q) := ⟨_, Lib.hid rfl⟩
  obtain ⟨r, ER⟩ : ∃ r, Hid (l.getD 2 1 = r) := ⟨_, Lib.hid rfl⟩
  rw [EP.out, EQ.out, ER.out] at HSH HPR
  rw [EP.out, EQ.out, ER.out]
  have HAL := Lib.hid (heap_alloc_new w (.cells #[.int .i64 p, .int .i64 q, .int .i64 r] 46))
  have HB := Lib.hid (Joins.below_alloc1 w (.cells #[.int .i64 p, .int .i64 q, .int .i64 r] 46))
  clear hP hs hPe hg
  go_enter Tryd.func45, Tryd.ntmps45
  go_wp2_with (go_at_call 68; refine (HPR.out _).mono ?_; rintro e w1 ⟨rfl, hb1⟩; have T1 := Lib.hid hb1; clear hb1)
  go_loopw [5, 6, 11] (fun v sn i wr => ∃ k : Nat, k ≤ P ∧ i = .int .i64 k ∧ sn = .int .u64 (seenK l s k : Nat) ∧ wr.ownsRow (w.heap.size + 1) 48 1 v (repsK l s k).length ((cosN l s (repsK l s k)).map elV) ∧ Below (w.heap.size + 1) (w.alloc (.cells #[.int .i64 p, .int .i64 q, .int .i64 r] 46)) wr) (fun _ _ i _ => P - (intOf i).toNat)
  case atStart => exact ⟨0, Nat.zero_le _, rfl, rfl, World.ownsRow_nil _ _ _ _, T1.out.mono (by simp)⟩
  case round =>
    obtain ⟨k, hk, rfl, rfl, hown, hbel⟩ := hrel
    obtain ⟨c40, c41, c42, _, _, _⟩ := trip_cell (keepH hbel (by simp) HAL.out)
    have HOW := Lib.hid hown
    have HBL := Lib.hid hbel
    have hlen := reps_len l s k
    by_cases hlt : k < P
    · have hk23 : k ≤ 23 := by omega
      have hkP : (k : Int) < (P : Int) := by omega
      have HY := Lib.hid (fun b => And.intro (reps_yes (l := l) (h := s) (k := k) b) (seen_yes (l := l) (h := s) (k := k) b))
      have HZ := Lib.hid (fun b => And.intro (reps_no (l := l) (h := s) (k := k) b) (seen_no (l := l) (h := s) (k := k) b))
      have HS24 := Lib.hid (HSL.out k)
      have HV24 := Lib.hid (HML.out k)
      have HSN := Lib.hid (cosN_snoc l s (repsK l s k) k)
      have HSK := Lib.hid (fun (W : World) => HSH.out W k hkP)
      obtain ⟨R, hR⟩ : ∃ R, repsK l s k = R := ⟨_, rfl⟩
      obtain ⟨S, hSS⟩ : ∃ S, seenK l s k = S := ⟨_, rfl⟩
      obtain ⟨V, hV⟩ : ∃ V, movN l s k = V := ⟨_, rfl⟩
      rw [hR, hSS] at HY
      rw [hR, hSS, hV] at HZ
      rw [hSS] at HS24
      rw [hV] at HV24 HSK
      rw [hR, hV] at HSN
      rw [hR] at HOW hlen
      rw [hSS]
      clear hR hSS hV hown hbel hkP
      cases hbt : S.testBit k with
      | true =>
        obtain ⟨e1, e2⟩ := HY.out hbt
        have E1 := Lib.hid e1
        have E2 := Lib.hid e2
        have HBT := Lib.hid hbt
        clear hbt HY HZ e1 e2
        go_wp2_with (go_at_call 69; refine (iHas _ S k HS24.out hk23).mono ?_; rw [HBT.out]; rintro e w5 ⟨rfl, rfl⟩)
        go_roundw
        case rel => exact ⟨k + 1, by omega, by go_num, by rw [E2.out], by rw [E1.out]; exact HOW.out, HBL.out⟩
        case measure => simp [intOf]; omega
      | false =>
        obtain ⟨e1, e2⟩ := HZ.out hbt
        have E1 := Lib.hid e1
        have E2 := Lib.hid e2
        have HBT := Lib.hid hbt
        have HOR := Lib.hid (orU S V HS24.out HV24.out)
        have HORS := HOR.out
        clear hbt HY HZ e1 e2
        go_wp2_with (first
          | (at_builtin; refine wpList_append_own _ rfl _ _ 58 rfl (w.heap.size + 1) 48 i0 (.int .u64 0) 1 8 Tryd.underlying58 hi0 hz0 hz1 hz2 rfl (by decide) _ _ _ rfl (O6.out.alloc _) ⟨w6.heap.size, 0, none⟩ 1 1 [.int .u64 (V : Nat)] rfl rfl ?c1 ?c2 ?c3 ?c4 ?c5 ?_)
          | (go_at_call 65; refine (HSK.out _).mono ?_; rintro e w6 ⟨rfl, hb6⟩; have T6 := Lib.hid (HBL.out.trans (hb6.mono (by have := HBL.out.size; simpa using this))); have O6 := Lib.hid (owns_below HOW.out hb6))
          | (go_at_call 69; refine (iHas _ S k HS24.out hk23).mono ?_; rw [HBT.out]; rintro e w5 ⟨rfl, rfl⟩))
        case c1 =>
          intro q u2 hq
          match q, hq with
          | 0, hq => simp at hq; subst hq; simp [Addr.add]
        case c2 => intro u2 hu2; simp at hu2; subst hu2; rfl
        case c3 => unfold maxLen; omega
        case c4 => omega
        case c5 => have := T6.out.size; simp at *; omega
        intro v' w4 hown' hgrow _
        have HBW : Hid (Below (w.heap.size + 1) (w.alloc (.cells #[.int .i64 p, .int .i64 q, .int .i64 r] 46)) w4) := Lib.hid ((T6.out.alloc (by have := T6.out.size; simp at *; omega) _).grown hgrow (by have := T6.out.size; simp at *; omega) (fun g hg => by have := (O6.out.lt g hg).1; omega))
        have HOW4 : Hid (w4.ownsRow (w.heap.size + 1) 48 1 v' (R.length + 1) ((cosN l s (R ++ [k])).map elV)) := Lib.hid (by
          rw [HSN.out]
          simpa [elV] using hown')
        clear hown' hgrow
        go_wp2
        go_roundw
        case rel => exact ⟨k + 1, by omega, by go_num, by rw [E2.out], by rw [E1.out, List.length_append]; exact HOW4.out, HBW.out⟩
        case measure => simp [intOf]; omega
    · obtain rfl : k = P := by omega
      clear hown hbel
      go_wp2
      go_ret
      exact ⟨_, rfl, Joins.ownsRow_le HOW.out (Nat.le_succ _), (HB.out.mono (Nat.le_refl _)).trans (HBL.out.mono (by omega))⟩
end Go.Proofs.YtehdneppleifdaaDoor
