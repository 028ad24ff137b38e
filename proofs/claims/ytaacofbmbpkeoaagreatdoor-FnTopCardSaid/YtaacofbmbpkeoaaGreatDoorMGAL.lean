/- Merged: LstN LstSpec Mark SetMark DilSpec SumSpec. -/
import Derived.Test.YtaacofbmbpkeoaaGreatDoorMGAE
import Derived.Test.YtaacofbmbpkeoaaGreatDoorMGAA
import Derived.Test.YtaacofbmbpkeoaaGreatDoorMGAJ
import Derived.Test.YtaacofbmbpkeoaaGreatDoorMGAC
import Derived.Deep.RegionHeld3
import Derived.Deep.DeepCutAuto
import Derived.Test.YtaacofbmbpkeoaaGreatDoorMGAF
import Derived.Test.YtaacofbmbpkeoaaGreatDoorSumMath
namespace Go.Proofs.YtaacofbmbpkeoaaGreatDoor
open Go.RowKit
/-- The elements of a set, as ints. -/
def lstN (L : List Nat) : List Value := L.map fun (x : Nat) => Value.int .i64 (x : Int)
theorem lstN_snoc (L : List Nat) (x : Nat) : lstN (L ++ [x]) = lstN L ++ [.int .i64 (x : Nat)] := by simp [lstN]
theorem bits_le (s : Nat) : (bitsN s).length ≤ 24 := upK_len s 24
end Go.Proofs.YtaacofbmbpkeoaaGreatDoor

namespace Go.Proofs.YtaacofbmbpkeoaaGreatDoor
open Go.RowKit
set_option maxRecDepth 1000000
set_option maxHeartbeats 1000000 in
theorem sL3 (w : World) (s : Nat) (h : s < 2 ^ 24) :
    Calls Tryz.prog 45 #[.int .i64 s] w fun e w' => ∃ v, e = .returned v ∧ w'.ownsRow w.heap.size 3 1 v (bitsN s).length (lstN (bitsN s)) ∧ Below w.heap.size w w' := by
  obtain ⟨i0, hi0, hz0, hz1, hz2⟩ := info_parts intInfo
  have HL := Lib.hid h
  have h24 : s < 16777216 := h
  clear h
  have OW : Hid ((w.alloc (.cells #[] 3)).ownsRow w.heap.size 3 1 (.slice (some ⟨w.heap.size, 0, none⟩) 0 0) 0 []) := Lib.hid (by simpa using World.ownsRow_lit (base := w.heap.size) (e := 3) (size := 1) w #[] 0 (by simp) (by simp [maxLen]) rfl)
  have HB := Lib.hid (Joins.below_alloc1 w (.cells #[] 3))
  go_enter Tryz.func45, Tryz.ntmps45
  go_wp2
  go_loopw [3, 4, 5] (fun v i x wr => ∃ k : Nat, k ≤ 24 ∧ i = .int .i64 k ∧ x = .int .i64 ((s / 2 ^ k : Nat) : Int) ∧ wr.ownsRow w.heap.size 3 1 v (upK s k).length (lstN (upK s k)) ∧ Below w.heap.size w wr) (fun _ _ x _ => (intOf x).toNat)
  case atStart => exact ⟨0, by omega, rfl, by simp, OW.out, HB.out⟩
  case round =>
    obtain ⟨k, hk, rfl, rfl, hown, hbel⟩ := hrel
    have hle := Nat.div_le_self s (2 ^ k)
    have hu := upK_len s k
    by_cases h0 : s / 2 ^ k = 0
    · have HF := Lib.hid (upK_full (div_zero h0) hk)
      rw [HF.out] at hown
      have HOW := Lib.hid hown
      have HBL := Lib.hid hbel
      rw [h0]
      clear hown hbel
      go_wp2
      go_ret
      exact ⟨_, rfl, HOW.out, HBL.out⟩
    · have hk24 : k < 24 := by
        rcases Nat.lt_or_ge k 24 with h | h
        · exact h
        · exfalso; apply h0
          have : k = 24 := by omega
          subst this
          exact Nat.div_eq_of_lt HL.out
      have HQ : Hid (s / 2 ^ k / 2 = s / 2 ^ (k + 1)) := Lib.hid (by rw [Nat.div_div_eq_div_mul, Nat.pow_succ])
      have hb := bit_iff s k
      have hul := Nat.lt_of_le_of_lt hu hk24
      cases hbt : s.testBit k with
      | true =>
        have hone := hb.1 hbt
        have HU := Lib.hid (upK_yes hbt)
        have HOW := Lib.hid hown
        have HBL := Lib.hid hbel
        clear hb hbt hown hbel
        generalize s / 2 ^ k = q at *
        have ha := and1 q (by omega)
        rw [hone] at ha
        go_wp2_with (at_builtin; refine wpList_append_own _ rfl _ _ 24 rfl w.heap.size 3 i0 (.int .i64 0) 1 8 Tryz.underlying24 hi0 hz0 hz1 hz2 rfl (by decide) _ _ _ rfl (HOW.out.alloc _) ⟨wr.heap.size, 0, none⟩ 1 1 [.int .i64 (k : Nat)] rfl rfl ?c1 ?c2 ?c3 ?c4 ?c5 ?_)
        case c1 =>
          intro q u2 hq
          match q, hq with
          | 0, hq => simp at hq; subst hq; simp [Addr.add]
        case c2 => intro u2 hu2; simp at hu2; subst hu2; rfl
        case c3 => unfold maxLen; omega
        case c4 => omega
        case c5 => have := HBL.out.size; simp at *; omega
        intro v' w4 hown' hgrow _
        have HBW : Hid (Below w.heap.size w w4) := Lib.hid ((HBL.out.alloc HBL.out.size _).grown hgrow (by have := HBL.out.size; simp at *; omega) (fun g hg => (HOW.out.lt g hg).1))
        have HOW4 : Hid (w4.ownsRow w.heap.size 3 1 v' (upK s (k + 1)).length (lstN (upK s (k + 1)))) := Lib.hid (by
          rw [HU.out, lstN_snoc, List.length_append]
          simpa using hown')
        clear hown' hgrow
        go_wp2
        go_roundw
        case rel => exact ⟨k + 1, by omega, by go_num, by rw [← HQ.out]; go_num, HOW4.out, HBW.out⟩
        case measure => simp [intOf]; omega
      | false =>
        have hzero : s / 2 ^ k % 2 = 0 := by
          have : ¬ s / 2 ^ k % 2 = 1 := fun e => by rw [hb.2 e] at hbt; cases hbt
          omega
        have HU := Lib.hid (upK_no hbt)
        have HOW4 : Hid (wr.ownsRow w.heap.size 3 1 _ (upK s (k + 1)).length (lstN (upK s (k + 1)))) := Lib.hid (by rw [HU.out]; exact hown)
        have HBL := Lib.hid hbel
        clear hb hbt hown hbel
        generalize s / 2 ^ k = q at *
        have ha := and1 q (by omega)
        rw [hzero] at ha
        go_wp2
        go_roundw
        case rel => exact ⟨k + 1, by omega, by go_num, by rw [← HQ.out]; go_num, HOW4.out, HBL.out⟩
        case measure => simp [intOf]; omega
/-- The document's list of a set; empty of what is none. -/
def lstE (l : List Int) (s : Int) : List Int := if isS l s = true then (bitsN s.toNat).map fun (x : Nat) => (x : Int) else []
theorem lstE_no {l : List Int} {s : Int} (h : isS l s = false) : lstE l s = [] := by unfold lstE; rw [if_neg (by simp [h])]
theorem lstE_yes {l : List Int} {m : Nat} (h : isS l (m : Int) = true) : (lstE l m).length = (bitsN m).length ∧ (lstE l m).map (Value.int .i64) = lstN (bitsN m) := by
  unfold lstE lstN; rw [if_pos h]; simp
theorem lstE_len (l : List Int) (s : Int) : (lstE l s).length ≤ 24 := by
  unfold lstE
  split
  · simpa using bits_le s.toNat
  · simp
end Go.Proofs.YtaacofbmbpkeoaaGreatDoor

namespace Go.Proofs.YtaacofbmbpkeoaaGreatDoor
open Go.RowKit
set_option maxRecDepth 1000000
theorem own_slice {w : World} {B : Nat} {v : Value} {l : List Int} (h : w.ownsRow B 3 1 v l.length (l.map (Value.int .i64))) : ∃ a cap, v = .slice a l.length cap := by
  obtain ⟨h1, h2⟩ := h
  rcases h2 with ⟨h2, h3⟩ | ⟨g, cap, cur, hv, _⟩
  · have : l = [] := by simpa using h3
    subst this
    exact ⟨none, 0, h2⟩
  · exact ⟨_, cap, hv⟩
theorem own_ints {w : World} {B cap : Nat} {a : Option Addr} {l : List Int} (h : w.ownsRow B 3 1 (.slice a l.length cap) l.length (l.map (Value.int .i64))) : Ints w a l := by
  obtain ⟨h1, h2⟩ := h
  rcases h2 with ⟨h2, h3⟩ | ⟨g, cap, cur, hv, hb, hg, h4, h5, h6, h7⟩
  · exact .inl (by simpa using h3)
  · cases hv
    exact ints_own ⟨h1, .inr ⟨g, cap, cur, rfl, hb, hg, h4, h5, h6, h7⟩⟩
theorem ne_blocks {x y : Option Nat} {N : Nat} (hA : ∀ k, x = some k → k < N) (hB : ∀ k, y = some k → N ≤ k) : x = none ∨ x ≠ y := by
  cases x with
  | none => exact .inl rfl
  | some k => exact .inr (fun e => by have h1 := hA k rfl; have h2 := hB k e.symm; omega)
theorem ne_blocks' {x y : Option Nat} {N : Nat} (hA : ∀ k, x = some k → N ≤ k) (hB : ∀ k, y = some k → k < N) : x = none ∨ x ≠ y := by
  cases x with
  | none => exact .inl rfl
  | some k => exact .inr (fun e => by have h1 := hA k rfl; have h2 := hB k e.symm; omega)
end Go.Proofs.YtaacofbmbpkeoaaGreatDoor



namespace Go.Proofs.YtaacofbmbpkeoaaGreatDoor
open Go.RowKit
set_option maxRecDepth 1000000
/-- The elements of a set as a list of ints. -/
def LI (s : Nat) : List Int := (bitsN s).map fun (x : Nat) => (x : Int)
theorem LI_len (s : Nat) : (LI s).length = (bitsN s).length := by simp [LI]
theorem LI_at (s k : Nat) (h : k < (bitsN s).length) : (LI s).getD k 0 = (((bitsN s).getD k 0 : Nat) : Int) := by
  simp [LI, List.getD, h]
theorem bits_at (s k : Nat) (h : k < (bitsN s).length) : (bitsN s).getD k 0 ≤ 23 := by
  have : (bitsN s).getD k 0 ∈ bitsN s := by
    simp only [List.getD, List.getElem?_eq_getElem h, Option.getD_some]; exact List.getElem_mem h
  have := (upK_mem this).1; omega
theorem take_next (F : Nat → Int) (s k : Nat) (h : k < (bitsN s).length) : orF F ((bitsN s).take (k + 1)) = orF F ((bitsN s).take k) ||| 2 ^ (F ((bitsN s).getD k 0)).toNat := by
  rw [List.take_add_one, List.getElem?_eq_getElem h]
  simp only [Option.toList_some]
  rw [orF_snoc]
  simp [List.getD, List.getElem?_eq_getElem h]
theorem sL3I (w : World) (s : Nat) (h : s < 2 ^ 24) :
    Calls Tryz.prog 45 #[.int .i64 s] w fun e w' => ∃ v, e = .returned v ∧ w'.ownsRow w.heap.size 3 1 v (LI s).length ((LI s).map (Value.int .i64)) ∧ Below w.heap.size w w' :=
  (sL3 w s h).mono fun _ _ ⟨v, e1, e2, e3⟩ => ⟨v, e1, by rw [LI_len, show (LI s).map (Value.int .i64) = lstN (bitsN s) by simp [LI, lstN]]; exact e2, e3⟩
theorem addN_bnd {l : List Int} (h : grpB l = true) (x y : Int) : 0 ≤ addN l x y ∧ addN l x y ≤ 23 := by
  have := valK_bnd h (sdig l x y) l.length (Nat.le_refl _) (fun j hj => sdig_bnd h x y hj)
  have hp := (ords_grp h).prod
  rw [PK_full] at this
  unfold addN; omega
theorem mulN_bnd' {l : List Int} (h : grpB l = true) (x k : Int) : 0 ≤ mulN l x k ∧ mulN l x k ≤ 23 := by
  have := mulN_bnd (ords_grp h) x k
  have hp := (ords_grp h).prod
  omega
theorem orT_lt {F : Nat → Int} (h : ∀ y, 0 ≤ F y ∧ F y ≤ 23) (L : List Nat) : orF F L < 16777216 := orF_lt _ _ 24 (fun x _ => by have := h x; omega)
set_option maxHeartbeats 4000000 in
theorem sShiftL (w : World) (a : Option Addr) (l : List Int) (n cap : Nat) (s : Nat) (x : Int) (hs : s < 2 ^ 24) (hx0 : 0 ≤ x) (hx23 : x ≤ 23) (hn : n = l.length) (hg : grpB l = true) (hi : Ints w a l) :
    Calls Tryz.prog 75 #[.agg #[.slice a n cap], .int .i64 s, .int .i64 x] w fun e w' => e = .returned (.int .i64 (orF (fun y => addN l (y : Int) x) (bitsN s) : Nat)) ∧ Below w.heap.size w w' := by
  have HS := Lib.hid hs
  have HG := Lib.hid hg
  have HFB : Hid (∀ y : Nat, 0 ≤ (fun (y : Nat) => addN l (y : Int) x) y ∧ (fun (y : Nat) => addN l (y : Int) x) y ≤ 23) := Lib.hid (fun y => addN_bnd hg _ _)
  obtain ⟨F, HF⟩ : ∃ F, Hid ((fun (y : Nat) => addN l (y : Int) x) = F) := ⟨_, Lib.hid rfl⟩
  rw [HF.out] at HFB
  rw [HF.out]
  have HFV : Hid (∀ y : Nat, addN l (y : Int) x = F y) := Lib.hid (fun y => by rw [← HF.out])
  clear hs hg
  have HI := Lib.hid (ints_alloc hi (.cells #[.slice a n cap] 26))
  have HN := Lib.hid hn
  have C1 := newC w (.slice a n cap) 26 (n := w.heap.size) rfl
  have HB := Lib.hid (Joins.below_alloc1 w (.cells #[.slice a n cap] 26))
  have T0 := Lib.hid (Below.refl (w.alloc (.cells #[.slice a n cap] 26)).heap.size (w.alloc (.cells #[.slice a n cap] 26)))
  clear hi hn
  go_enter Tryz.func75, Tryz.ntmps75
  go_wp2_with (go_at_call 45; refine (sL3I _ s HS.out).mono ?_; rintro e w2 ⟨v2, rfl, ho2, hb2⟩; obtain ⟨a2, cap2, rfl⟩ := own_slice ho2; have I2 := Lib.hid (own_ints ho2); have T2 := Lib.hid (T0.out.trans (hb2.mono T0.out.size)); have c2 := keepC T2.out (by simp) C1; clear ho2 hb2)
  go_loopw [7, 9] (fun o i wr => ∃ k : Nat, k ≤ (bitsN s).length ∧ i = .int .i64 k ∧ o = .int .i64 (orF F ((bitsN s).take k) : Nat) ∧ Below w2.heap.size w2 wr) (fun _ i _ => (bitsN s).length - (intOf i).toNat)
  case atStart => exact ⟨0, Nat.zero_le _, rfl, rfl, Below.refl _ _⟩
  case round =>
    obtain ⟨k, hk, rfl, rfl, hbel⟩ := hrel
    have c4 := keepC hbel (World.block_lt_of_cell? w2 _ c2) c2
    have T4 := Lib.hid (T2.out.trans (hbel.mono T2.out.size))
    have hO := orT_lt HFB.out ((bitsN s).take k)
    have h24 := bits_le s
    have HLN := Lib.hid (LI_len s)
    have hlen : ((LI s).length : Int) = ((bitsN s).length : Int) := by rw [HLN.out]
    by_cases hlt : k < (bitsN s).length
    · have hkl : k < (LI s).length := by rw [HLN.out]; exact hlt
      rcases I2.out with h0 | ⟨b, off, h1, hbl, hc⟩
      · rw [h0] at hkl; simp at hkl
      · subst h1
        have r1 := keepC hbel hbl (hc k hkl)
        rw [LI_at s k hlt] at r1
        have HTN := Lib.hid (take_next F s k hlt)
        have hy := bits_at s k hlt
        obtain ⟨y, HY⟩ : ∃ y, Hid ((bitsN s).getD k 0 = y) := ⟨_, Lib.hid rfl⟩
        rw [HY.out] at HTN hy r1
        obtain ⟨v1, v2⟩ := HFB.out y
        have HOR := Lib.hid (or_step hO v1 v2)
        have HBL := Lib.hid hbel
        have hy0 : (0 : Int) ≤ (y : Int) := by omega
        have hy23 : (y : Int) ≤ 23 := by omega
        clear hc hkl hbel
        obtain ⟨V, HV⟩ : ∃ V, Hid (F y = V) := ⟨_, Lib.hid rfl⟩
        rw [HV.out] at v1 v2 HOR HTN
        obtain ⟨O, HOO⟩ : ∃ O, Hid (orF F ((bitsN s).take k) = O) := ⟨_, Lib.hid rfl⟩
        rw [HOO.out] at HOR HTN hO
        rw [HOO.out]
        have TD := Lib.hid T4.out.drew
        have hVN : V.toNat ≤ 23 := by omega
        go_wp2
        (first | go_region_with (first | (go_at_call 46; refine (sAdd _ _ l _ _ (y : Int) x hy0 hy23 hx0 hx23 HN.out HG.out (HI.out.below rfl TD.out)).mono ?_; rw [HFV.out, HV.out]; rintro e w5 ⟨rfl, hb5⟩)) | fail)
        all_goals
          go_wp2
          go_roundw
          case rel => exact ⟨k + 1, by omega, by go_num, by rw [HOR.out, HTN.out], HBL.out.drew.trans (hb5.mono HBL.out.size)⟩
          case measure => simp [intOf]; omega
    · obtain rfl : k = (bitsN s).length := by omega
      have HBL := Lib.hid hbel
      clear hbel
      go_wp2
      go_ret
      exact ⟨by rw [List.take_length]; rfl, HB.out.trans ((T2.out.mono (by simp)).trans (HBL.out.mono (Nat.le_trans (by simp) T2.out.size)))⟩
/-- A bit of a set is an element. -/
theorem bits_isE {l : List Int} {m y : Nat} (hs : isS l (m : Int) = true) (hy : y ∈ bitsN m) : isE l (y : Int) = true := by
  obtain ⟨hg, m', e, hm, _⟩ := isS_true hs
  obtain rfl : m = m' := by omega
  have hb := (upK_mem hy).2
  have hlt : y < (prodI l).toNat := by
    rcases Nat.lt_or_ge y (prodI l).toNat with h | h
    · exact h
    · rw [bit_no hm y h] at hb; cases hb
  have hp := (ords_grp hg).prod
  simp only [isE, ordN_grp hg, Bool.and_eq_true, decide_eq_true_eq]
  omega
/-- The document's answers. -/
def shE (l : List Int) (s x : Int) : Int := if isS l s = true then (if isE l x = true then (orF (fun y => addN l (y : Int) x) (bitsN s.toNat) : Nat) else -1) else -1
def ngE (l : List Int) (s : Int) : Int := if isS l s = true then (orF (fun y => negN l (y : Int)) (bitsN s.toNat) : Nat) else -1
def dlE (l : List Int) (s k : Int) : Int := if isS l s = true then (if -100 ≤ k ∧ k ≤ 100 then (orF (fun y => mulN l (y : Int) k) (bitsN s.toNat) : Nat) else -1) else -1
end Go.Proofs.YtaacofbmbpkeoaaGreatDoor

namespace Go.Proofs.YtaacofbmbpkeoaaGreatDoor
open Go.RowKit
set_option maxRecDepth 1000000
theorem take_nextG (G : Nat → Nat) (s k : Nat) (h : k < (bitsN s).length) : orG G ((bitsN s).take (k + 1)) = orG G ((bitsN s).take k) ||| G ((bitsN s).getD k 0) := by
  rw [List.take_add_one, List.getElem?_eq_getElem h]
  simp only [Option.toList_some]
  rw [orG_snoc]
  simp [List.getD, List.getElem?_eq_getElem h]
theorem lt24 {x : Nat} (h : x < 2 ^ 24) : x < 16777216 := h
theorem movN_lt24 {l : List Int} (hg : grpB l = true) (a x : Nat) : movN l a x < 2 ^ 24 := grp_pow hg (movN_lt hg a x)
theorem sMov (w : World) (a : Option Addr) (l : List Int) (n cap : Nat) (s y : Nat) (hs : s < 2 ^ 24) (hy : (y : Int) ≤ 23) (hn : n = l.length) (hg : grpB l = true) (hi : Ints w a l) :
    Calls Tryz.prog 75 #[.agg #[.slice a n cap], .int .i64 s, .int .i64 (y : Nat)] w fun e w' => e = .returned (.int .i64 (movN l s y : Nat)) ∧ Below w.heap.size w w' :=
  sShiftL w a l n cap s y hs (by omega) hy hn hg hi
theorem subK_next (l : List Int) (s k : Nat) (h : k < (bitsN s).length) : subK l ((bitsN s).take (k + 1)) = subK l ((bitsN s).take k) ||| movN l (subK l ((bitsN s).take k)) ((bitsN s).getD k 0) := by
  rw [List.take_add_one, List.getElem?_eq_getElem h]
  simp only [Option.toList_some]
  rw [subK_snoc]
  simp [List.getD, List.getElem?_eq_getElem h]
set_option maxHeartbeats 4000000 in
theorem sSumL (w : World) (a : Option Addr) (l : List Int) (n cap : Nat) (s t : Nat) (hs : s < 2 ^ 24) (ht : t < 2 ^ 24) (hn : n = l.length) (hg : grpB l = true) (hi : Ints w a l) :
    Calls Tryz.prog 43 #[.agg #[.slice a n cap], .int .i64 s, .int .i64 t] w fun e w' => e = .returned (.int .i64 (sumN l s t : Nat)) ∧ Below w.heap.size w w' := by
  have HS := Lib.hid hs
  have HC := Lib.hid ht
  have HG := Lib.hid hg
  clear hs ht hg
  have HI := Lib.hid (ints_alloc hi (.cells #[.slice a n cap] 26))
  have HN := Lib.hid hn
  have C1 := newC w (.slice a n cap) 26 (n := w.heap.size) rfl
  have HB := Lib.hid (Joins.below_alloc1 w (.cells #[.slice a n cap] 26))
  have T0 := Lib.hid (Below.refl (w.alloc (.cells #[.slice a n cap] 26)).heap.size (w.alloc (.cells #[.slice a n cap] 26)))
  clear hi hn
  go_enter Tryz.func43, Tryz.ntmps43
  go_wp2_with (go_at_call 45; refine (sL3I _ t HC.out).mono ?_; rintro e w2 ⟨v2, rfl, ho2, hb2⟩; obtain ⟨a2, cap2, rfl⟩ := own_slice ho2; have I2 := Lib.hid (own_ints ho2); have T2 := Lib.hid (T0.out.trans (hb2.mono T0.out.size)); have c2 := keepC T2.out (by simp) C1; clear ho2 hb2)
  go_loopw [7, 9] (fun o i wr => ∃ k : Nat, k ≤ (bitsN t).length ∧ i = .int .i64 k ∧ o = .int .i64 (orG (fun x => movN l s x) ((bitsN t).take k) : Nat) ∧ Below w2.heap.size w2 wr) (fun _ i _ => (bitsN t).length - (intOf i).toNat)
  case atStart => exact ⟨0, Nat.zero_le _, rfl, rfl, Below.refl _ _⟩
  case round =>
    obtain ⟨k, hk, rfl, rfl, hbel⟩ := hrel
    have c4 := keepC hbel (World.block_lt_of_cell? w2 _ c2) c2
    have T4 := Lib.hid (T2.out.trans (hbel.mono T2.out.size))
    have hO : orG (fun x => movN l s x) ((bitsN t).take k) < 2 ^ 24 := grp_pow HG.out (orG_lt _ _ _ (fun x _ => movN_lt HG.out s x))
    have h24 := bits_le t
    have HLN := Lib.hid (LI_len t)
    have hlen : ((LI t).length : Int) = ((bitsN t).length : Int) := by rw [HLN.out]
    by_cases hlt : k < (bitsN t).length
    · have hkl : k < (LI t).length := by rw [HLN.out]; exact hlt
      rcases I2.out with h0 | ⟨b, off, h1, hbl, hc⟩
      · rw [h0] at hkl; simp at hkl
      · subst h1
        have r1 := keepC hbel hbl (hc k hkl)
        rw [LI_at t k hlt] at r1
        have HTN := Lib.hid (take_nextG (fun x => movN l s x) t k hlt)
        have hy := bits_at t k hlt
        obtain ⟨y, HY⟩ : ∃ y, Hid ((bitsN t).getD k 0 = y) := ⟨_, Lib.hid rfl⟩
        rw [HY.out] at HTN hy r1
        obtain ⟨O, HOO⟩ : ∃ O, Hid (orG (fun x => movN l s x) ((bitsN t).take k) = O) := ⟨_, Lib.hid rfl⟩
        rw [HOO.out] at HTN hO
        rw [HOO.out]
        have HO := Lib.hid hO
        have HV0 : movN l s y < 2 ^ 24 := movN_lt24 HG.out s y
        obtain ⟨V, HV⟩ : ∃ V, Hid (movN l s y = V) := ⟨_, Lib.hid rfl⟩
        rw [HV.out] at HV0 HTN
        have HOR := Lib.hid (orI O V (lt24 hO) (Nat.le_of_lt (lt24 HV0)))
        have HORS := HOR.out
        have HBL := Lib.hid hbel
        have hy23 : (y : Int) ≤ 23 := by omega
        clear hc hkl hbel
        have TD := Lib.hid T4.out.drew
        clear hO HV0
        go_wp2
        (first | go_region_with (first | (go_at_call 75; refine (sMov _ _ l _ _ s y HS.out hy23 HN.out HG.out (HI.out.below rfl TD.out)).mono ?_; rw [HV.out]; rintro e w5 ⟨rfl, hb5⟩)) | fail)
        all_goals
          go_wp2
          go_roundw
          case rel => exact ⟨k + 1, by omega, by go_num, by rw [HTN.out], HBL.out.drew.trans (hb5.mono HBL.out.size)⟩
          case measure => simp [intOf]; omega
    · obtain rfl : k = (bitsN t).length := by omega
      have HBL := Lib.hid hbel
      clear hbel hO
      go_wp2
      go_ret
      exact ⟨by rw [List.take_length]; rfl, HB.out.trans ((T2.out.mono (by simp)).trans (HBL.out.mono (Nat.le_trans (by simp) T2.out.size)))⟩
set_option maxHeartbeats 4000000 in
theorem sSum (w : World) (a : Option Addr) (l : List Int) (n cap : Nat) (s t : Int) (hn : n = l.length) (hm : n ≤ 9223372036854775807) (hi : Ints w a l) :
    Calls Tryz.prog 9 #[.agg #[.slice a n cap], .int .i64 s, .int .i64 t] w fun e w' => e = .returned (.int .i64 (sumE l s t)) ∧ Below w.heap.size w w' := by
  have HI := Lib.hid (ints_alloc hi (.cells #[.slice a n cap] 26))
  have HN := Lib.hid hn
  have C1 := newC w (.slice a n cap) 26 (n := w.heap.size) rfl
  have HB := Lib.hid (Joins.below_alloc1 w (.cells #[.slice a n cap] 26))
  have T0 := Lib.hid (Below.refl (w.alloc (.cells #[.slice a n cap] 26)).heap.size (w.alloc (.cells #[.slice a n cap] 26)))
  clear hi hn
  cases hs : isS l s with
  | false =>
    have HS := Lib.hid hs
    rw [show sumE l s t = -1 by unfold sumE two; rw [hs]; rfl]
    clear hs
    go_enter Tryz.func9, Tryz.ntmps9
    go_wp2_with (first
      | (go_at_call 42; refine (sIsSet _ _ _ _ _ _ HN.out hm (HI.out.below rfl T0.out)).mono ?_; rw [HS.out]; rintro e w1 ⟨rfl, hb1⟩; have T1 := Lib.hid (T0.out.trans (hb1.mono T0.out.size)); have c1 := keepC T1.out (by simp) C1))
    go_ret
    exact ⟨rfl, HB.out.trans (T1.out.mono (by simp))⟩
  | true =>
    have HS := Lib.hid hs
    cases ht : isS l t with
    | false =>
      have HS2 := Lib.hid ht
      rw [show sumE l s t = -1 by unfold sumE two; rw [hs, ht]; rfl]
      clear hs ht
      go_enter Tryz.func9, Tryz.ntmps9
      go_wp2_with (first
        | (go_at_call 42; have hx_ := T1; clear hx_; refine (sIsSet _ _ _ _ _ _ HN.out hm (HI.out.below rfl T1.out)).mono ?_; rw [HS2.out]; rintro e w2 ⟨rfl, hb2⟩; have T2 := Lib.hid (T1.out.trans (hb2.mono T1.out.size)); have c2 := keepC T2.out (by simp) C1)
        | (go_at_call 42; refine (sIsSet _ _ _ _ _ _ HN.out hm (HI.out.below rfl T0.out)).mono ?_; rw [HS.out]; rintro e w1 ⟨rfl, hb1⟩; have T1 := Lib.hid (T0.out.trans (hb1.mono T0.out.size)); have c1 := keepC T1.out (by simp) C1))
      go_ret
      exact ⟨rfl, HB.out.trans (T2.out.mono (by simp))⟩
    | true =>
      have HS2 := Lib.hid ht
      obtain ⟨hg, s, rfl, _, hs24⟩ := isS_true hs
      obtain ⟨_, t, rfl, _, ht24⟩ := isS_true ht
      rw [show sumE l s t = (sumN l s t : Nat) by unfold sumE two; rw [hs, ht]; rfl]
      have HG := Lib.hid hg
      have HA := Lib.hid hs24
      have HC := Lib.hid ht24
      clear hs ht hg hs24 ht24
      go_enter Tryz.func9, Tryz.ntmps9
      go_wp2_with (first
        | (go_at_call 43; refine (sSumL _ _ l _ _ s t HA.out HC.out HN.out HG.out (HI.out.below rfl T2.out)).mono ?_; rintro e w3 ⟨rfl, hb3⟩; have T3 := Lib.hid (T2.out.trans (hb3.mono T2.out.size)); have c3 := keepC T3.out (by simp) C1)
        | (go_at_call 42; have hx_ := T1; clear hx_; refine (sIsSet _ _ _ _ _ _ HN.out hm (HI.out.below rfl T1.out)).mono ?_; rw [HS2.out]; rintro e w2 ⟨rfl, hb2⟩; have T2 := Lib.hid (T1.out.trans (hb2.mono T1.out.size)); have c2 := keepC T2.out (by simp) C1)
        | (go_at_call 42; refine (sIsSet _ _ _ _ _ _ HN.out hm (HI.out.below rfl T0.out)).mono ?_; rw [HS.out]; rintro e w1 ⟨rfl, hb1⟩; have T1 := Lib.hid (T0.out.trans (hb1.mono T0.out.size)); have c1 := keepC T1.out (by simp) C1))
      go_ret
      exact ⟨rfl, HB.out.trans (T3.out.mono (by simp))⟩
end Go.Proofs.YtaacofbmbpkeoaaGreatDoor
