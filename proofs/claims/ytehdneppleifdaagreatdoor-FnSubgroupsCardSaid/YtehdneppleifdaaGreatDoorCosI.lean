/- The program's own cosets: cosets, numbersOf, slices.Index, CosetsOf, CosetNumber. -/
import Derived.Test.YtehdneppleifdaaGreatDoorGenK
import Derived.Test.YtehdneppleifdaaGreatDoorCosSpec
import Derived.Test.YtehdneppleifdaaGreatDoorMGAS
namespace Go.Proofs.YtehdneppleifdaaGreatDoor
open Go.RowKit Go.Shelf
attribute [local go_sem] Oper.semAt_some
set_option maxRecDepth 1000000
/-- Where a list has a number first; -1 where it has it not. -/
def idxN (L : List Nat) (v : Nat) : Int := match L.findIdx? (fun y => y == v) with | some i => ((i : Nat) : Int) | none => -1
theorem idxN_yes {L : List Nat} {v k : Nat} (hk : k < L.length) (hp : L.getD k 0 = v) (hn : ∀ j, j < k → L.getD j 0 ≠ v) : idxN L v = (k : Int) := by
  unfold idxN
  rw [idx_yes (k := k) hk (by simpa using hp) (fun j hj => by simpa using hn j hj)]
theorem idxN_no {L : List Nat} {v : Nat} (hn : ∀ j, j < L.length → L.getD j 0 ≠ v) : idxN L v = -1 := by
  unfold idxN
  rw [idx_no (fun j hj => by simpa using hn j hj)]
set_option maxHeartbeats 1000000 in
theorem iIndex (w : World) (a : Option Addr) (L : List Nat) (n cap v : Nat) (hn : n = L.length) (hl : n ≤ 1048576) (he : Els w a L) :
    Calls Tryz.prog 54 #[.slice a n cap, .int .u64 v] w fun e w' => e = .returned (.int .i64 (idxN L v)) ∧ w = w' := by
  have HE := Lib.hid he
  have HNL := Lib.hid hn
  have HY := Lib.hid (fun k (h1 : k < L.length) (h2 : L.getD k 0 = v) (h3 : ∀ j, j < k → L.getD j 0 ≠ v) => idxN_yes h1 h2 h3)
  have HZ := Lib.hid (fun (h : ∀ j, j < L.length → L.getD j 0 ≠ v) => idxN_no h)
  obtain ⟨R, HR⟩ : ∃ R, Hid (idxN L v = R) := ⟨_, Lib.hid rfl⟩
  rw [HR.out] at HY HZ
  rw [HR.out]
  clear he hn
  go_enter Tryz.func54, Tryz.ntmps54
  go_wp2
  go_loopw [8] (fun i wr => ∃ k : Nat, k ≤ n ∧ i = .int .i64 k ∧ Hid (∀ j, j < k → L.getD j 0 ≠ v) ∧ w = wr) (fun i _ => n - (intOf i).toNat)
  case atStart => exact ⟨0, Nat.zero_le _, rfl, Lib.hid (fun j hj => absurd hj (by omega)), rfl⟩
  case round =>
    obtain ⟨k, hk, rfl, HNO, rfl⟩ := hrel
    by_cases hlt : k < n
    · have hkl : k < L.length := by rw [← HNL.out]; exact hlt
      rcases HE.out with h0 | ⟨b, off, ha, hbl, hc⟩
      · rw [h0] at hkl; simp at hkl
      · subst ha
        have hread := hc k hkl
        have HYK := Lib.hid (fun h => HY.out k hkl h HNO.out)
        have HNK : Hid (L.getD k 0 ≠ v → ∀ j, j < k + 1 → L.getD j 0 ≠ v) := Lib.hid (fun h j hj => by
          by_cases hjk : j < k
          · exact HNO.out j hjk
          · obtain rfl : j = k := by omega
            exact h)
        generalize L.getD k 0 = z at hread HYK HNK
        clear hc hkl hbl
        by_cases hz : z = v
        · have hr := HYK.out hz
          subst hz
          clear HYK HNK HNO HY HZ
          have HRR := Lib.hid hr
          clear hr
          go_wp2
          go_ret
          exact ⟨by rw [HRR.out]; rfl, rfl⟩
        · have hne : ((v : Int) == (z : Int)) = false := by
            have : (v : Int) ≠ (z : Int) := by omega
            simpa using this
          have HNN := Lib.hid (HNK.out hz)
          clear HYK HNK hz
          go_wp2
          go_roundw
          case rel => exact ⟨k + 1, by omega, by go_num, HNN, by first | trivial | rfl⟩
          case measure => simp [intOf]; omega
    · obtain rfl : k = n := by omega
      have HRR := Lib.hid (HZ.out (fun j hj => HNO.out j (by rw [HNL.out]; exact hj)))
      go_wp2
      go_ret
      exact ⟨by rw [HRR.out]; rfl, rfl⟩
/-- The cosets as numbers. -/
def cosN (l : List Int) (s : Nat) (R : List Nat) : List Nat := R.map fun y => movN l s y
theorem cosN_len (l : List Int) (s : Nat) (R : List Nat) : (cosN l s R).length = R.length := by simp [cosN]
theorem cosN_snoc (l : List Int) (s : Nat) (R : List Nat) (k : Nat) : cosN l s (R ++ [k]) = cosN l s R ++ [movN l s k] := by simp [cosN]
theorem cosN_ints (l : List Int) (s : Nat) (R : List Nat) : NLi (cosN l s R) = cosL l s R := by simp [cosN, NLi, cosL]
theorem cosN_lt {l : List Int} (hg : grpB l = true) (s : Nat) (R : List Nat) : ∀ x ∈ cosN l s R, x < 16777216 := fun x hx => by
  unfold cosN at hx
  obtain ⟨y, _, rfl⟩ := List.mem_map.1 hx
  exact movN_lt24 hg s y
set_option maxHeartbeats 4000000 in
theorem iCosets {l : List Int} (hg : grpB l = true) (w : World) (s : Nat) (hs : s < 2 ^ (prodI l).toNat) :
    Calls Tryz.prog 45 #[tV (l.getD 0 1) (l.getD 1 1) (l.getD 2 1), .int .u64 s] w fun e w' => ∃ v, e = .returned v ∧ w'.ownsRow w.heap.size 43 1 v (repsK l s (prodI l).toNat).length ((cosN l s (repsK l s (prodI l).toNat)).map elV) ∧ Below w.heap.size w w' := by
  obtain ⟨i0, hi0, hz0, hz1, hz2⟩ := info_parts eleInfo
  have hP := (ords_grp hg).prod
  obtain ⟨P, hPe⟩ : ∃ P : Nat, prodI l = (P : Int) := ⟨(prodI l).toNat, by omega⟩
  have HSH := Lib.hid (fun (W : World) (k : Nat) (hk : (k : Int) < prodI l) => iMov hg W s k hs hk)
  have HPR := Lib.hid (fun (W : World) => iProduct W _ _ _ (tri_grp hg))
  rw [← prod_pad (grpB_true hg).1, hPe] at HPR
  rw [hPe] at hP HSH
  rw [show (prodI l).toNat = P by omega]
  have hP24 : P ≤ 24 := by omega
  have HSL := Lib.hid (fun k => seen_lt (h := s) hg k)
  have HML := Lib.hid (fun k => movN_lt24 hg s k)
  obtain ⟨p, EP⟩ : ∃ p, Hid (l.getD 0 1 = p) := ⟨_, Lib.hid rfl⟩
  obtain ⟨q, EQ⟩ : ∃ q, Hid (l.getD 1 1 = q) := ⟨_, Lib.hid rfl⟩
  obtain ⟨r, ER⟩ : ∃ r, Hid (l.getD 2 1 = r) := ⟨_, Lib.hid rfl⟩
  rw [EP.out, EQ.out, ER.out] at HSH HPR
  rw [EP.out, EQ.out, ER.out]
  have HAL := Lib.hid (heap_alloc_new w (.cells #[.int .i64 p, .int .i64 q, .int .i64 r] 41))
  have HB := Lib.hid (Joins.below_alloc1 w (.cells #[.int .i64 p, .int .i64 q, .int .i64 r] 41))
  clear hP hs hPe hg
  go_enter Tryz.func45, Tryz.ntmps45
  go_wp2_with (go_at_call 53; refine (HPR.out _).mono ?_; rintro e w1 ⟨rfl, hb1⟩; have T1 := Lib.hid hb1; clear hb1)
  go_loopw [5, 6, 11] (fun v sn i wr => ∃ k : Nat, k ≤ P ∧ i = .int .i64 k ∧ sn = .int .u64 (seenK l s k : Nat) ∧ wr.ownsRow (w.heap.size + 1) 43 1 v (repsK l s k).length ((cosN l s (repsK l s k)).map elV) ∧ Below (w.heap.size + 1) (w.alloc (.cells #[.int .i64 p, .int .i64 q, .int .i64 r] 41)) wr) (fun _ _ i _ => P - (intOf i).toNat)
  case atStart => exact ⟨0, Nat.zero_le _, rfl, rfl, World.ownsRow_nil _ _ _ _, T1.out.mono (by simp)⟩
  case round =>
    obtain ⟨k, hk, rfl, rfl, hown, hbel⟩ := hrel
    obtain ⟨c40, c41, c42, _, _, _⟩ := trip_cell (keepH hbel (by simp) HAL.out)
    have HOW := Lib.hid hown
    have HBL := Lib.hid hbel
    have hlen := reps_len l s k
    by_cases hlt : k < P
    · have hk23 : k ≤ 23 := by omega
      have hkP : (k : Int) < (P : Int) := by omega
      have HY := Lib.hid (fun b => And.intro (reps_yes (l := l) (h := s) (k := k) b) (seen_yes (l := l) (h := s) (k := k) b))
      have HZ := Lib.hid (fun b => And.intro (reps_no (l := l) (h := s) (k := k) b) (seen_no (l := l) (h := s) (k := k) b))
      have HS24 := Lib.hid (HSL.out k)
      have HV24 := Lib.hid (HML.out k)
      have HSN := Lib.hid (cosN_snoc l s (repsK l s k) k)
      have HSK := Lib.hid (fun (W : World) => HSH.out W k hkP)
      obtain ⟨R, hR⟩ : ∃ R, repsK l s k = R := ⟨_, rfl⟩
      obtain ⟨S, hSS⟩ : ∃ S, seenK l s k = S := ⟨_, rfl⟩
      obtain ⟨V, hV⟩ : ∃ V, movN l s k = V := ⟨_, rfl⟩
      rw [hR, hSS] at HY
      rw [hR, hSS, hV] at HZ
      rw [hSS] at HS24
      rw [hV] at HV24 HSK
      rw [hR, hV] at HSN
      rw [hR] at HOW hlen
      rw [hSS]
      clear hR hSS hV hown hbel hkP
      cases hbt : S.testBit k with
      | true =>
        obtain ⟨e1, e2⟩ := HY.out hbt
        have E1 := Lib.hid e1
        have E2 := Lib.hid e2
        have HBT := Lib.hid hbt
        clear hbt HY HZ e1 e2
        go_wp2_with (go_at_call 70; refine (iHas _ S k HS24.out hk23).mono ?_; rw [HBT.out]; rintro e w5 ⟨rfl, rfl⟩)
        go_roundw
        case rel => exact ⟨k + 1, by omega, by go_num, by rw [E2.out], by rw [E1.out]; exact HOW.out, HBL.out⟩
        case measure => simp [intOf]; omega
      | false =>
        obtain ⟨e1, e2⟩ := HZ.out hbt
        have E1 := Lib.hid e1
        have E2 := Lib.hid e2
        have HBT := Lib.hid hbt
        have HOR := Lib.hid (orU S V HS24.out HV24.out)
        have HORS := HOR.out
        clear hbt HY HZ e1 e2
        go_wp2_with (first
          | (at_builtin; refine wpList_append_own _ rfl _ _ 53 rfl (w.heap.size + 1) 43 i0 (.int .u64 0) 1 8 Tryz.underlying53 hi0 hz0 hz1 hz2 rfl (by decide) _ _ _ rfl (O6.out.alloc _) ⟨w6.heap.size, 0, none⟩ 1 1 [.int .u64 (V : Nat)] rfl rfl ?c1 ?c2 ?c3 ?c4 ?c5 ?_)
          | (go_at_call 55; refine (HSK.out _).mono ?_; rintro e w6 ⟨rfl, hb6⟩; have T6 := Lib.hid (HBL.out.trans (hb6.mono (by have := HBL.out.size; simpa using this))); have O6 := Lib.hid (owns_below HOW.out hb6))
          | (go_at_call 70; refine (iHas _ S k HS24.out hk23).mono ?_; rw [HBT.out]; rintro e w5 ⟨rfl, rfl⟩))
        case c1 =>
          intro q u2 hq
          match q, hq with
          | 0, hq => simp at hq; subst hq; simp [Addr.add]
        case c2 => intro u2 hu2; simp at hu2; subst hu2; rfl
        case c3 => unfold maxLen; omega
        case c4 => omega
        case c5 => have := T6.out.size; simp at *; omega
        intro v' w4 hown' hgrow _
        have HBW : Hid (Below (w.heap.size + 1) (w.alloc (.cells #[.int .i64 p, .int .i64 q, .int .i64 r] 41)) w4) := Lib.hid ((T6.out.alloc (by have := T6.out.size; simp at *; omega) _).grown hgrow (by have := T6.out.size; simp at *; omega) (fun g hg => by have := (O6.out.lt g hg).1; omega))
        have HOW4 : Hid (w4.ownsRow (w.heap.size + 1) 43 1 v' (R.length + 1) ((cosN l s (R ++ [k])).map elV)) := Lib.hid (by
          rw [HSN.out]
          simpa [elV] using hown')
        clear hown' hgrow
        go_wp2
        go_roundw
        case rel => exact ⟨k + 1, by omega, by go_num, by rw [E2.out], by rw [E1.out, List.length_append]; exact HOW4.out, HBW.out⟩
        case measure => simp [intOf]; omega
    · obtain rfl : k = P := by omega
      clear hown hbel
      go_wp2
      go_ret
      exact ⟨_, rfl, Joins.ownsRow_le HOW.out (Nat.le_succ _), (HB.out.mono (Nat.le_refl _)).trans (HBL.out.mono (by omega))⟩
end Go.Proofs.YtehdneppleifdaaGreatDoor
