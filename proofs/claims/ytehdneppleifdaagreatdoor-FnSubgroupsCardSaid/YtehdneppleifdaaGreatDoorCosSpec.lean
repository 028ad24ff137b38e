/- The document's reading of chapter 5: the cosets of a subgroup, and the number of an element's coset. -/
import Derived.Test.YtehdneppleifdaaGreatDoorSubSpec
namespace Go.Proofs.YtehdneppleifdaaGreatDoor
open Go.RowKit
set_option maxRecDepth 1000000
/-- The least elements of the cosets below k. -/
def repsK (l : List Int) (h : Nat) : Nat → List Nat
  | 0 => []
  | k + 1 => if (orG (fun y => movN l h y) (repsK l h k)).testBit k = true then repsK l h k else repsK l h k ++ [k]
/-- What their cosets hold. -/
def seenK (l : List Int) (h k : Nat) : Nat := orG (fun y => movN l h y) (repsK l h k)
theorem reps_yes {l : List Int} {h k : Nat} (b : (seenK l h k).testBit k = true) : repsK l h (k + 1) = repsK l h k := if_pos b
theorem reps_no {l : List Int} {h k : Nat} (b : (seenK l h k).testBit k = false) : repsK l h (k + 1) = repsK l h k ++ [k] := if_neg (by rw [show orG (fun y => movN l h y) (repsK l h k) = seenK l h k from rfl, b]; simp)
theorem seen_yes {l : List Int} {h k : Nat} (b : (seenK l h k).testBit k = true) : seenK l h (k + 1) = seenK l h k := by unfold seenK; rw [reps_yes b]
theorem seen_no {l : List Int} {h k : Nat} (b : (seenK l h k).testBit k = false) : seenK l h (k + 1) = seenK l h k ||| movN l h k := by unfold seenK; rw [reps_no b, orG_snoc]
theorem reps_len (l : List Int) (h : Nat) : ∀ k, (repsK l h k).length ≤ k
  | 0 => Nat.le_refl _
  | k + 1 => by
    have := reps_len l h k
    unfold repsK
    split
    · omega
    · simp; omega
theorem reps_lt (l : List Int) (h : Nat) : ∀ k, ∀ x ∈ repsK l h k, x < k
  | 0, x, hx => by cases hx
  | k + 1, x, hx => by
    have ih := reps_lt l h k
    unfold repsK at hx
    split at hx
    · exact Nat.lt_succ_of_lt (ih x hx)
    · rcases List.mem_append.1 hx with h1 | h1
      · exact Nat.lt_succ_of_lt (ih x h1)
      · simp at h1; omega
theorem seen_lt {l : List Int} (hg : grpB l = true) (h k : Nat) : seenK l h k < 2 ^ 24 := grp_pow hg (orG_lt _ _ _ (fun x _ => movN_lt hg h x))
/-- The cosets of a subgroup, by their least elements. -/
def cosL (l : List Int) (h : Nat) (R : List Nat) : List Int := R.map fun y => ((movN l h y : Nat) : Int)
theorem cosL_len (l : List Int) (h : Nat) (R : List Nat) : (cosL l h R).length = R.length := by simp [cosL]
theorem cosL_snoc (l : List Int) (h : Nat) (R : List Nat) (k : Nat) : cosL l h (R ++ [k]) = cosL l h R ++ [((movN l h k : Nat) : Int)] := by simp [cosL]
def cosE (l : List Int) (s : Int) : List Int := if sgB l s = true then cosL l s.toNat (repsK l s.toNat (prodI l).toNat) else []
theorem sgB_set {l : List Int} {s : Int} (h : sgB l s = true) : isS l s = true := by
  unfold sgB at h
  exact (Bool.and_eq_true_iff.1 h).1
set_option maxHeartbeats 4000000 in
theorem sCosets (w : World) (a : Option Addr) (l : List Int) (n cap : Nat) (s : Int) (hn : n = l.length) (hm : n ≤ 9223372036854775807) (hi : Ints w a l) :
    Calls Tryz.prog 17 #[.agg #[.slice a n cap], .int .i64 s] w fun e w' => ∃ v, e = .returned (.tuple #[v, .bool (sgB l s)]) ∧ w'.ownsRow w.heap.size 3 1 v (cosE l s).length ((cosE l s).map (Value.int .i64)) ∧ Below w.heap.size w w' := by
  obtain ⟨i0, hi0, hz0, hz1, hz2⟩ := info_parts intInfo
  have HI := Lib.hid (ints_alloc hi (.cells #[.slice a n cap] 26))
  have HN := Lib.hid hn
  have C1 := newC w (.slice a n cap) 26 (n := w.heap.size) rfl
  have HB := Lib.hid (Joins.below_alloc1 w (.cells #[.slice a n cap] 26))
  have HI2 := Lib.hid (ints_alloc HI.out (.cells #[] 3))
  have C2 := keepC (Joins.below_alloc1 _ (.cells #[] 3)) (by simp) C1
  have HB2 := Lib.hid (Joins.below_alloc1 (w.alloc (.cells #[.slice a n cap] 26)) (.cells #[] 3))
  have OW : Hid (((w.alloc (.cells #[.slice a n cap] 26)).alloc (.cells #[] 3)).ownsRow (w.heap.size + 1) 3 1 (.slice (some ⟨w.heap.size + 1, 0, none⟩) 0 0) 0 []) := Lib.hid (by simpa using World.ownsRow_lit (base := w.heap.size + 1) (e := 3) (size := 1) (w.alloc (.cells #[.slice a n cap] 26)) #[] 0 (by simp) (by simp [maxLen]) rfl)
  clear hi hn
  cases hs : sgB l s with
  | false =>
    have HS := Lib.hid hs
    rw [show cosE l s = [] by unfold cosE; rw [if_neg (by simp [hs])]]
    clear hs
    go_enter Tryz.func17, Tryz.ntmps17
    go_wp2_with (go_at_call 46; refine (sIsSub _ _ _ _ _ _ HN.out hm HI2.out).mono ?_; rw [HS.out]; rintro e w1 ⟨rfl, hb1⟩)
    go_ret2
    exact ⟨_, rfl, Joins.ownsRow_le (owns_below OW.out hb1) (Nat.le_succ _), (HB.out.alloc (by simp) _).trans (hb1.mono (by simp; omega))⟩
  | true =>
    have HS := Lib.hid hs
    obtain ⟨hg, s, rfl, _, hs24⟩ := isS_true (sgB_set hs)
    rw [show cosE l (s : Int) = cosL l s (repsK l s (prodI l).toNat) by unfold cosE; rw [if_pos hs, Int.toNat_natCast]]
    have hP := (ords_grp hg).prod
    obtain ⟨P, hPe⟩ : ∃ P : Nat, prodI l = (P : Int) := ⟨(prodI l).toNat, by omega⟩
    rw [hPe] at hP
    rw [show (prodI l).toNat = P by omega]
    have HP := Lib.hid hPe
    have hP24 : P ≤ 24 := by omega
    have HG := Lib.hid hg
    have HA := Lib.hid hs24
    clear hs hg hs24 hP hPe
    go_enter Tryz.func17, Tryz.ntmps17
    go_wp2_with (go_at_call 46; refine (sIsSub _ _ _ _ _ _ HN.out hm HI2.out).mono ?_; rw [HS.out]; rintro e w1 ⟨rfl, hb1⟩; have T1 := Lib.hid (show Below (w.heap.size + 1) (w.alloc (.cells #[.slice a n cap] 26)) w1 from (HB2.out.mono (by simp)).trans (hb1.mono (by simp))); have O1 := Lib.hid (owns_below OW.out hb1); clear hb1)
    go_loopw [6, 7, 8] (fun v sn i wr => ∃ k : Nat, k ≤ P ∧ i = .int .i64 k ∧ sn = .int .i64 (seenK l s k : Nat) ∧ wr.ownsRow (w.heap.size + 1) 3 1 v (repsK l s k).length ((cosL l s (repsK l s k)).map (Value.int .i64)) ∧ Below (w.heap.size + 1) (w.alloc (.cells #[.slice a n cap] 26)) wr) (fun _ _ i _ => P - (intOf i).toNat)
    case atStart => exact ⟨0, Nat.zero_le _, rfl, rfl, O1.out, T1.out⟩
    case round =>
      obtain ⟨k, hk, rfl, rfl, hown, hbel⟩ := hrel
      have c4 := keepC hbel (by simp) C1
      have HIr := Lib.hid (HI.out.below (by simp) hbel)
      have HOW := Lib.hid hown
      have HBL := Lib.hid hbel
      have hlen := reps_len l s k
      by_cases hlt : k < P
      · have hk23 : (k : Int) ≤ 23 := by omega
        have HY := Lib.hid (fun b => And.intro (reps_yes (l := l) (h := s) (k := k) b) (seen_yes (l := l) (h := s) (k := k) b))
        have HZ := Lib.hid (fun b => And.intro (reps_no (l := l) (h := s) (k := k) b) (seen_no (l := l) (h := s) (k := k) b))
        have HS24 := Lib.hid (seen_lt HG.out s k)
        have HV24 := Lib.hid (movN_lt24 HG.out s k)
        have HSN := Lib.hid (cosL_snoc l s (repsK l s k) k)
        obtain ⟨R, hR⟩ : ∃ R, repsK l s k = R := ⟨_, rfl⟩
        obtain ⟨S, hSS⟩ : ∃ S, seenK l s k = S := ⟨_, rfl⟩
        obtain ⟨V, hV⟩ : ∃ V, movN l s k = V := ⟨_, rfl⟩
        have HV := Lib.hid hV
        rw [hR, hSS] at HY
        rw [hR, hSS, hV] at HZ
        rw [hSS] at HS24
        rw [hV] at HV24
        rw [hR, hV] at HSN
        rw [hR] at HOW hlen
        rw [hSS]
        clear hR hSS hV hown hbel
        have hsj : (S : Int) / 2 ^ k = ((S / 2 ^ k : Nat) : Int) := by simp
        have hle := Nat.div_le_self S (2 ^ k)
        have hs24 : S < 16777216 := HS24.out
        have ha : bits .and .i64 ((S : Int) / 2 ^ k) 1 = ((S / 2 ^ k % 2 : Nat) : Int) := by rw [hsj]; exact and1 (S / 2 ^ k) (by omega)
        have hb := bit_iff S k
        clear hsj hle hs24
        cases hbt : S.testBit k with
        | true =>
          have hz := hb.1 hbt
          rw [hz] at ha
          simp only [Int.natCast_one] at ha
          obtain ⟨e1, e2⟩ := HY.out hbt
          have E1 := Lib.hid e1
          have E2 := Lib.hid e2
          clear hb hbt hz HY HZ e1 e2
          go_wp2_with (go_at_call 40; refine (sOrder _ _ l _ _ HN.out HG.out HIr.out).mono ?_; rw [HP.out]; rintro e w5 ⟨rfl, hb5⟩)
          go_roundw
          case rel => exact ⟨k + 1, by omega, by go_num, by rw [E2.out], by rw [E1.out]; exact owns_below HOW.out hb5, HBL.out.trans (hb5.mono (by have := HBL.out.size; simpa using this))⟩
          case measure => simp [intOf]; omega
        | false =>
          have hz : S / 2 ^ k % 2 = 0 := by
            rcases Nat.mod_two_eq_zero_or_one (S / 2 ^ k) with h2 | h2
            · exact h2
            · rw [hb.2 h2] at hbt; cases hbt
          rw [hz] at ha
          simp only [Int.ofNat_zero] at ha
          obtain ⟨e1, e2⟩ := HZ.out hbt
          have E1 := Lib.hid e1
          have E2 := Lib.hid e2
          have HOR := Lib.hid (orI S V (lt24 HS24.out) (Nat.le_of_lt (lt24 HV24.out)))
          have HORS := HOR.out
          clear hb hbt hz HY HZ e1 e2
          go_wp2_with (first
            | (at_builtin; refine wpList_append_own _ rfl _ _ 24 rfl (w.heap.size + 1) 3 i0 (.int .i64 0) 1 8 Tryz.underlying24 hi0 hz0 hz1 hz2 rfl (by decide) _ _ _ rfl (O6.out.alloc _) ⟨w6.heap.size, 0, none⟩ 1 1 [.int .i64 (V : Nat)] rfl rfl ?c1 ?c2 ?c3 ?c4 ?c5 ?_)
            | (go_at_call 47; refine (sMov _ _ l _ _ s k HA.out hk23 HN.out HG.out HI5.out).mono ?_; rw [HV.out]; rintro e w6 ⟨rfl, hb6⟩; have T6 := Lib.hid (T5.out.trans (hb6.mono (by have := T5.out.size; simpa using this))); have O6 := Lib.hid (owns_below O5.out hb6); have c6 := keepC hb6 (World.block_lt_of_cell? w5 _ c5) c5)
            | (go_at_call 40; refine (sOrder _ _ l _ _ HN.out HG.out HIr.out).mono ?_; rw [HP.out]; rintro e w5 ⟨rfl, hb5⟩; have T5 := Lib.hid (HBL.out.trans (hb5.mono (by have := HBL.out.size; simpa using this))); have O5 := Lib.hid (owns_below HOW.out hb5); have HI5 := Lib.hid (HIr.out.below rfl hb5); have c5 := keepC hb5 (World.block_lt_of_cell? wr _ c4) c4))
          case c1 =>
            intro q u2 hq
            match q, hq with
            | 0, hq => simp at hq; subst hq; simp [Addr.add]
          case c2 => intro u2 hu2; simp at hu2; subst hu2; rfl
          case c3 => unfold maxLen; omega
          case c4 => omega
          case c5 => have := T6.out.size; simp at *; omega
          intro v' w4 hown' hgrow _
          have c8 := hgrow.cell (keepC (Joins.below_alloc1 w6 _) (World.block_lt_of_cell? w6 _ c6) c6) (fun e => absurd (O6.out.lt _ e.symm).1 (by simp))
          have HBW : Hid (Below (w.heap.size + 1) (w.alloc (.cells #[.slice a n cap] 26)) w4) := Lib.hid ((T6.out.alloc (by have := T6.out.size; simp at *; omega) _).grown hgrow (by have := T6.out.size; simp at *; omega) (fun g hg => by have := (O6.out.lt g hg).1; omega))
          have HOW4 : Hid (w4.ownsRow (w.heap.size + 1) 3 1 v' (R.length + 1) ((cosL l s (R ++ [k])).map (Value.int .i64))) := Lib.hid (by
            rw [HSN.out]
            simpa using hown')
          clear hown' hgrow
          go_wp2
          go_roundw
          case rel => exact ⟨k + 1, by omega, by go_num, by rw [E2.out], by rw [E1.out, List.length_append]; exact HOW4.out, HBW.out⟩
          case measure => simp [intOf]; omega
      · obtain rfl : k = P := by omega
        clear hown hbel
        go_wp2_with (go_at_call 40; refine (sOrder _ _ l _ _ HN.out HG.out HIr.out).mono ?_; rw [HP.out]; rintro e w5 ⟨rfl, hb5⟩)
        go_ret2
        exact ⟨_, rfl, by rw [cosL_len]; exact Joins.ownsRow_le (owns_below HOW.out hb5) (Nat.le_succ _), (HB.out.mono (Nat.le_refl _)).trans ((HBL.out.trans (hb5.mono (by have := HBL.out.size; simpa using this))).mono (by omega))⟩
/-- The number of an element's coset. -/
def numE (l : List Int) (s x : Int) : Int := if sgB l s = true ∧ isE l x = true then (match (repsK l s.toNat (prodI l).toNat).findIdx? (fun y => (movN l s.toNat y).testBit x.toNat) with | some i => ((i : Nat) : Int) | none => -1) else -1
theorem idx_yes {R : List Nat} {p : Nat → Bool} {k : Nat} (hk : k < R.length) (hp : p (R.getD k 0) = true) (hn : ∀ j, j < k → p (R.getD j 0) = false) : R.findIdx? p = some k := by
  rw [List.findIdx?_eq_some_iff_getElem]
  refine ⟨hk, by simpa [List.getD, hk] using hp, fun j hj => ?_⟩
  have h := hn j hj
  have hj2 : j < R.length := by omega
  simpa [List.getD, hj2] using h
theorem idx_no {R : List Nat} {p : Nat → Bool} (hn : ∀ j, j < R.length → p (R.getD j 0) = false) : R.findIdx? p = none := by
  rw [List.findIdx?_eq_none_iff]
  intro x hx
  obtain ⟨j, hj, rfl⟩ := List.getElem_of_mem hx
  have h := hn j hj
  simpa [List.getD, hj] using h
theorem cosL_at {l : List Int} {h : Nat} {R : List Nat} {k : Nat} (hk : k < R.length) : (cosL l h R).getD k 0 = ((movN l h (R.getD k 0) : Nat) : Int) := by
  simp [cosL, List.getD, hk]
set_option maxHeartbeats 4000000 in
theorem sCosNo (w : World) (a : Option Addr) (l : List Int) (n cap : Nat) (s x : Int) (hn : n = l.length) (hm : n ≤ 9223372036854775807) (hi : Ints w a l) :
    Calls Tryz.prog 25 #[.agg #[.slice a n cap], .int .i64 s, .int .i64 x] w fun e w' => e = .returned (.int .i64 (numE l s x)) ∧ Below w.heap.size w w' := by
  have HI := Lib.hid (ints_alloc hi (.cells #[.slice a n cap] 26))
  have HN := Lib.hid hn
  have C1 := newC w (.slice a n cap) 26 (n := w.heap.size) rfl
  have HB := Lib.hid (Joins.below_alloc1 w (.cells #[.slice a n cap] 26))
  clear hi hn
  cases hs : sgB l s with
  | false =>
    have HS := Lib.hid hs
    rw [show numE l s x = -1 by unfold numE; rw [if_neg (by simp [hs])]]
    have HE : Hid (cosE l s = []) := Lib.hid (by unfold cosE; rw [if_neg (by simp [hs])])
    clear hs
    go_enter Tryz.func25, Tryz.ntmps25
    go_wp2_with (go_at_call 17; refine (sCosets _ _ l _ _ s HN.out hm HI.out).mono ?_; rw [HS.out, HE.out]; rintro e w1 ⟨v1, rfl, ho1, hb1⟩; obtain ⟨a1, cap1, rfl⟩ := own_slice ho1; simp only [List.length_nil] at ho1 ⊢; clear ho1)
    refine wp_loop_rounds 1 ?_
    rw [rounds_succ]
    go_wp2
    go_ret
    exact ⟨rfl, HB.out.trans (hb1.mono (by simp))⟩
  | true =>
    have HS := Lib.hid hs
    obtain ⟨hg, s, rfl, _, hs24⟩ := isS_true (sgB_set hs)
    have HE : Hid (cosE l (s : Int) = cosL l s (repsK l s (prodI l).toNat)) := Lib.hid (by unfold cosE; rw [if_pos hs, Int.toNat_natCast])
    have HR24 : (repsK l s (prodI l).toNat).length ≤ 24 := by
      have h1 := reps_len l s (prodI l).toNat
      have h2 := (ords_grp hg).prod
      omega
    cases hx : isE l x with
    | false =>
      have HX : Hid (false = isE l x) := Lib.hid hx.symm
      rw [show numE l (s : Int) x = -1 by unfold numE; rw [if_neg (by simp [hx])]]
      obtain ⟨R, hR⟩ : ∃ R, repsK l s (prodI l).toNat = R := ⟨_, rfl⟩
      rw [hR] at HE HR24
      clear hs hx hR hg hs24
      go_enter Tryz.func25, Tryz.ntmps25
      go_wp2_with (go_at_call 17; refine (sCosets _ _ l _ _ (s : Int) HN.out hm HI.out).mono ?_; rw [HS.out, HE.out]; rintro e w1 ⟨v1, rfl, ho1, hb1⟩; obtain ⟨a1, cap1, rfl⟩ := own_slice ho1; have HCL := cosL_len l s R; have c1 := keepC hb1 (by simp) C1; have HI1 := Lib.hid (HI.out.below rfl hb1); have B1 := Lib.hid (HB.out.trans (hb1.mono (by simp))); clear ho1 hb1)
      refine wp_loop_rounds 1 ?_
      rw [rounds_succ]
      try rw [HCL]
      clear HCL
      generalize R.length = m at *
      by_cases hm0 : m = 0
      · subst hm0
        go_wp2
        go_ret
        exact ⟨rfl, B1.out⟩
      · go_wp2_with (go_at_call 56; refine (sIs _ _ _ _ _ _ _ HX.out HN.out hm HI1.out).mono ?_; rintro e w2 ⟨rfl, hb2⟩)
        go_ret
        exact ⟨rfl, B1.out.trans (hb2.mono B1.out.size)⟩
    | true =>
      have HX : Hid (true = isE l x) := Lib.hid hx.symm
      obtain ⟨_, x0, x1, x2⟩ := isE_true hx
      obtain ⟨x, rfl⟩ : ∃ y : Nat, x = (y : Int) := ⟨x.toNat, by omega⟩
      rw [show numE l (s : Int) (x : Int) = (match (repsK l s (prodI l).toNat).findIdx? (fun y => (movN l s y).testBit x) with | some i => ((i : Nat) : Int) | none => -1) by unfold numE; rw [if_pos ⟨hs, hx⟩, Int.toNat_natCast, Int.toNat_natCast]]
      have HG := Lib.hid hg
      obtain ⟨R, hR⟩ : ∃ R, repsK l s (prodI l).toNat = R := ⟨_, rfl⟩
      rw [hR] at HE HR24 ⊢
      obtain ⟨res, hres⟩ : ∃ r : Int, (match R.findIdx? (fun y => (movN l s y).testBit x) with | some i => ((i : Nat) : Int) | none => -1) = r := ⟨_, rfl⟩
      rw [hres]
      have HRES := Lib.hid hres
      clear hs hx hR hg hs24 hres
      go_enter Tryz.func25, Tryz.ntmps25
      go_wp2_with (go_at_call 17; refine (sCosets _ _ l _ _ (s : Int) HN.out hm HI.out).mono ?_; rw [HS.out, HE.out]; rintro e w1 ⟨v1, rfl, ho1, hb1⟩; obtain ⟨a1, cap1, rfl⟩ := own_slice ho1; have HCL := cosL_len l s R; have I1 := Lib.hid (own_ints ho1); have c1 := keepC hb1 (by simp) C1; have HI1 := Lib.hid (HI.out.below rfl hb1); have B1 := Lib.hid (HB.out.trans (hb1.mono (by simp))); clear ho1 hb1)
      try rw [HCL]
      obtain ⟨m, hmm⟩ : ∃ m, R.length = m := ⟨_, rfl⟩
      have HMM := Lib.hid hmm
      rw [hmm] at HR24 ⊢
      have HC := Lib.hid HCL
      clear HCL hmm
      go_loopw [9] (fun i wr => ∃ k : Nat, k ≤ m ∧ i = .int .i64 k ∧ (∀ j, j < k → (movN l s (R.getD j 0)).testBit x = false) ∧ Below w1.heap.size w1 wr) (fun i _ => m - (intOf i).toNat)
      case atStart => exact ⟨0, Nat.zero_le _, rfl, fun j hj => absurd hj (by omega), Below.refl _ _⟩
      case round =>
        obtain ⟨k, hk, rfl, hno, hbel⟩ := hrel
        have c4 := keepC hbel (World.block_lt_of_cell? w1 _ c1) c1
        have HIr := Lib.hid (HI1.out.below rfl hbel)
        have B4 := Lib.hid (B1.out.trans (hbel.mono B1.out.size))
        have HBL := Lib.hid hbel
        have HNO := Lib.hid hno
        clear hno
        by_cases hlt : k < m
        · have hkl : k < (cosL l s R).length := by rw [HC.out, HMM.out]; exact hlt
          have hkR : k < R.length := by rw [HMM.out]; exact hlt
          rcases I1.out with h0 | ⟨b, off, h1, hbl, hc⟩
          · rw [h0] at hkl; simp at hkl
          · subst h1
            have r1 := keepC hbel hbl (hc k hkl)
            rw [cosL_at hkR] at r1
            have HV24 := Lib.hid (movN_lt24 HG.out s (R.getD k 0))
            have HYES := Lib.hid (fun hp => idx_yes (p := fun y => (movN l s y).testBit x) hkR hp HNO.out)
            obtain ⟨V, hV⟩ : ∃ V, movN l s (R.getD k 0) = V := ⟨_, rfl⟩
            have HV := Lib.hid hV
            rw [hV] at r1 HV24
            clear hV hkl hkR hc hbel
            have hsj : (V : Int) / 2 ^ x = ((V / 2 ^ x : Nat) : Int) := by simp
            have hle := Nat.div_le_self V (2 ^ x)
            have hs24 : V < 16777216 := HV24.out
            have ha : bits .and .i64 ((V : Int) / 2 ^ x) 1 = ((V / 2 ^ x % 2 : Nat) : Int) := by rw [hsj]; exact and1 (V / 2 ^ x) (by omega)
            have hb := bit_iff V x
            clear hsj hle hs24
            cases hbt : V.testBit x with
            | true =>
              have hz := hb.1 hbt
              rw [hz] at ha
              simp only [Int.natCast_one] at ha
              have hr := HRES.out
              rw [HYES.out (by rw [HV.out]; exact hbt)] at hr
              subst hr
              clear hb hbt hz
              go_wp2_with (go_at_call 56; refine (sIs _ _ _ _ _ _ _ HX.out HN.out hm HIr.out).mono ?_; rintro e w5 ⟨rfl, hb5⟩; have r5 := keepC hb5 (World.block_lt_of_cell? wr _ r1) r1)
              go_ret
              exact ⟨rfl, B4.out.trans (hb5.mono B4.out.size)⟩
            | false =>
              have hz : V / 2 ^ x % 2 = 0 := by
                rcases Nat.mod_two_eq_zero_or_one (V / 2 ^ x) with h2 | h2
                · exact h2
                · rw [hb.2 h2] at hbt; cases hbt
              rw [hz] at ha
              simp only [Int.ofNat_zero] at ha
              have HBT := Lib.hid hbt
              clear hb hbt hz HYES
              go_wp2_with (go_at_call 56; refine (sIs _ _ _ _ _ _ _ HX.out HN.out hm HIr.out).mono ?_; rintro e w5 ⟨rfl, hb5⟩; have r5 := keepC hb5 (World.block_lt_of_cell? wr _ r1) r1)
              go_roundw
              case rel =>
                refine ⟨k + 1, by omega, by go_num, fun j hj => ?_, HBL.out.trans (hb5.mono HBL.out.size)⟩
                by_cases hjk : j < k
                · exact HNO.out j hjk
                · obtain rfl : j = k := by omega
                  rw [HV.out]; exact HBT.out
              case measure => simp [intOf]; omega
        · obtain rfl : k = m := by omega
          have hr := HRES.out
          rw [idx_no (p := fun y => (movN l s y).testBit x) (fun j hj => HNO.out j (by rw [← HMM.out]; exact hj))] at hr
          subst hr
          clear hbel
          go_wp2
          go_ret
          exact ⟨rfl, B4.out⟩
end Go.Proofs.YtehdneppleifdaaGreatDoor
