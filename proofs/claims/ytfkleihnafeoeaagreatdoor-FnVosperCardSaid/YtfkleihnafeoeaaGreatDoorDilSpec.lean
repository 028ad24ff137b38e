/- Shifts, negatives and dilates of sets by the document's reading. -/
import Derived.Test.YtfkleihnafeoeaaGreatDoorSetMark
import Derived.Test.YtfkleihnafeoeaaGreatDoorGrpSpec4
import Derived.Test.YtfkleihnafeoeaaGreatDoorOrI
import Derived.Deep.RegionHeld3
import Derived.Deep.DeepCutAuto
namespace Go.Proofs.YtfkleihnafeoeaaGreatDoor
open Go.RowKit
set_option maxRecDepth 1000000
/-- The elements of a set as a list of ints. -/
def LI (s : Nat) : List Int := (bitsN s).map fun (x : Nat) => (x : Int)
theorem LI_len (s : Nat) : (LI s).length = (bitsN s).length := by simp [LI]
theorem LI_at (s k : Nat) (h : k < (bitsN s).length) : (LI s).getD k 0 = (((bitsN s).getD k 0 : Nat) : Int) := by
  simp [LI, List.getD, h]
theorem bits_at (s k : Nat) (h : k < (bitsN s).length) : (bitsN s).getD k 0 ≤ 23 := by
  have : (bitsN s).getD k 0 ∈ bitsN s := by
    simp only [List.getD, List.getElem?_eq_getElem h, Option.getD_some]; exact List.getElem_mem h
  have := (upK_mem this).1; omega
theorem take_next (F : Nat → Int) (s k : Nat) (h : k < (bitsN s).length) : orF F ((bitsN s).take (k + 1)) = orF F ((bitsN s).take k) ||| 2 ^ (F ((bitsN s).getD k 0)).toNat := by
  rw [List.take_add_one, List.getElem?_eq_getElem h]
  simp only [Option.toList_some]
  rw [orF_snoc]
  simp [List.getD, List.getElem?_eq_getElem h]
theorem sL3I (w : World) (s : Nat) (h : s < 2 ^ 24) :
    Calls Tryz.prog 41 #[.int .i64 s] w fun e w' => ∃ v, e = .returned v ∧ w'.ownsRow w.heap.size 3 1 v (LI s).length ((LI s).map (Value.int .i64)) ∧ Below w.heap.size w w' :=
  (sL3 w s h).mono fun _ _ ⟨v, e1, e2, e3⟩ => ⟨v, e1, by rw [LI_len, show (LI s).map (Value.int .i64) = lstN (bitsN s) by simp [LI, lstN]]; exact e2, e3⟩
theorem addN_bnd {l : List Int} (h : grpB l = true) (x y : Int) : 0 ≤ addN l x y ∧ addN l x y ≤ 23 := by
  have := valK_bnd h (sdig l x y) l.length (Nat.le_refl _) (fun j hj => sdig_bnd h x y hj)
  have hp := (ords_grp h).prod
  rw [PK_full] at this
  unfold addN; omega
theorem mulN_bnd' {l : List Int} (h : grpB l = true) (x k : Int) : 0 ≤ mulN l x k ∧ mulN l x k ≤ 23 := by
  have := mulN_bnd (ords_grp h) x k
  have hp := (ords_grp h).prod
  omega
theorem orT_lt {F : Nat → Int} (h : ∀ y, 0 ≤ F y ∧ F y ≤ 23) (L : List Nat) : orF F L < 16777216 := orF_lt _ _ 24 (fun x _ => by have := h x; omega)
set_option maxHeartbeats 4000000 in
theorem sShiftL (w : World) (a : Option Addr) (l : List Int) (n cap : Nat) (s : Nat) (x : Int) (hs : s < 2 ^ 24) (hx0 : 0 ≤ x) (hx23 : x ≤ 23) (hn : n = l.length) (hg : grpB l = true) (hi : Ints w a l) :
    Calls Tryz.prog 67 #[.agg #[.slice a n cap], .int .i64 s, .int .i64 x] w fun e w' => e = .returned (.int .i64 (orF (fun y => addN l (y : Int) x) (bitsN s) : Nat)) ∧ Below w.heap.size w w' := by
  have HS := Lib.hid hs
  have HG := Lib.hid hg
  have HFB : Hid (∀ y : Nat, 0 ≤ (fun (y : Nat) => addN l (y : Int) x) y ∧ (fun (y : Nat) => addN l (y : Int) x) y ≤ 23) := Lib.hid (fun y => addN_bnd hg _ _)
  obtain ⟨F, HF⟩ : ∃ F, Hid ((fun (y : Nat) => addN l (y : Int) x) = F) := ⟨_, Lib.hid rfl⟩
  rw [HF.out] at HFB
  rw [HF.out]
  have HFV : Hid (∀ y : Nat, addN l (y : Int) x = F y) := Lib.hid (fun y => by rw [← HF.out])
  clear hs hg
  have HI := Lib.hid (ints_alloc hi (.cells #[.slice a n cap] 26))
  have HN := Lib.hid hn
  have C1 := newC w (.slice a n cap) 26 (n := w.heap.size) rfl
  have HB := Lib.hid (Joins.below_alloc1 w (.cells #[.slice a n cap] 26))
  have T0 := Lib.hid (Below.refl (w.alloc (.cells #[.slice a n cap] 26)).heap.size (w.alloc (.cells #[.slice a n cap] 26)))
  clear hi hn
  go_enter Tryz.func67, Tryz.ntmps67
  go_wp2_with (go_at_call 41; refine (sL3I _ s HS.out).mono ?_; rintro e w2 ⟨v2, rfl, ho2, hb2⟩; obtain ⟨a2, cap2, rfl⟩ := own_slice ho2; have I2 := Lib.hid (own_ints ho2); have T2 := Lib.hid (T0.out.trans (hb2.mono T0.out.size)); have c2 := keepC T2.out (by simp) C1; clear ho2 hb2)
  go_loopw [7, 9] (fun o i wr => ∃ k : Nat, k ≤ (bitsN s).length ∧ i = .int .i64 k ∧ o = .int .i64 (orF F ((bitsN s).take k) : Nat) ∧ Below w2.heap.size w2 wr) (fun _ i _ => (bitsN s).length - (intOf i).toNat)
  case atStart => exact ⟨0, Nat.zero_le _, rfl, rfl, Below.refl _ _⟩
  case round =>
    obtain ⟨k, hk, rfl, rfl, hbel⟩ := hrel
    have c4 := keepC hbel (World.block_lt_of_cell? w2 _ c2) c2
    have T4 := Lib.hid (T2.out.trans (hbel.mono T2.out.size))
    have hO := orT_lt HFB.out ((bitsN s).take k)
    have h24 := bits_le s
    have HLN := Lib.hid (LI_len s)
    have hlen : ((LI s).length : Int) = ((bitsN s).length : Int) := by rw [HLN.out]
    by_cases hlt : k < (bitsN s).length
    · have hkl : k < (LI s).length := by rw [HLN.out]; exact hlt
      rcases I2.out with h0 | ⟨b, off, h1, hbl, hc⟩
      · rw [h0] at hkl; simp at hkl
      · subst h1
        have r1 := keepC hbel hbl (hc k hkl)
        rw [LI_at s k hlt] at r1
        have HTN := Lib.hid (take_next F s k hlt)
        have hy := bits_at s k hlt
        obtain ⟨y, HY⟩ : ∃ y, Hid ((bitsN s).getD k 0 = y) := ⟨_, Lib.hid rfl⟩
        rw [HY.out] at HTN hy r1
        obtain ⟨v1, v2⟩ := HFB.out y
        have HOR := Lib.hid (or_step hO v1 v2)
        have HBL := Lib.hid hbel
        have hy0 : (0 : Int) ≤ (y : Int) := by omega
        have hy23 : (y : Int) ≤ 23 := by omega
        clear hc hkl hbel
        obtain ⟨V, HV⟩ : ∃ V, Hid (F y = V) := ⟨_, Lib.hid rfl⟩
        rw [HV.out] at v1 v2 HOR HTN
        obtain ⟨O, HOO⟩ : ∃ O, Hid (orF F ((bitsN s).take k) = O) := ⟨_, Lib.hid rfl⟩
        rw [HOO.out] at HOR HTN hO
        rw [HOO.out]
        have TD := Lib.hid T4.out.drew
        have hVN : V.toNat ≤ 23 := by omega
        go_wp2
        (first | go_region_with (first | (go_at_call 56; refine (sAdd _ _ l _ _ (y : Int) x hy0 hy23 hx0 hx23 HN.out HG.out (HI.out.below rfl TD.out)).mono ?_; rw [HFV.out, HV.out]; rintro e w5 ⟨rfl, hb5⟩)) | fail)
        all_goals
          go_wp2
          go_roundw
          case rel => exact ⟨k + 1, by omega, by go_num, by rw [HOR.out, HTN.out], HBL.out.drew.trans (hb5.mono HBL.out.size)⟩
          case measure => simp [intOf]; omega
    · obtain rfl : k = (bitsN s).length := by omega
      have HBL := Lib.hid hbel
      clear hbel
      go_wp2
      go_ret
      exact ⟨by rw [List.take_length]; rfl, HB.out.trans ((T2.out.mono (by simp)).trans (HBL.out.mono (Nat.le_trans (by simp) T2.out.size)))⟩
/-- A bit of a set is an element. -/
theorem bits_isE {l : List Int} {m y : Nat} (hs : isS l (m : Int) = true) (hy : y ∈ bitsN m) : isE l (y : Int) = true := by
  obtain ⟨hg, m', e, hm, _⟩ := isS_true hs
  obtain rfl : m = m' := by omega
  have hb := (upK_mem hy).2
  have hlt : y < (prodI l).toNat := by
    rcases Nat.lt_or_ge y (prodI l).toNat with h | h
    · exact h
    · rw [bit_no hm y h] at hb; cases hb
  have hp := (ords_grp hg).prod
  simp only [isE, ordN_grp hg, Bool.and_eq_true, decide_eq_true_eq]
  omega
/-- The document's answers. -/
def shE (l : List Int) (s x : Int) : Int := if isS l s = true then (if isE l x = true then (orF (fun y => addN l (y : Int) x) (bitsN s.toNat) : Nat) else -1) else -1
def ngE (l : List Int) (s : Int) : Int := if isS l s = true then (orF (fun y => negN l (y : Int)) (bitsN s.toNat) : Nat) else -1
def dlE (l : List Int) (s k : Int) : Int := if isS l s = true then (if -100 ≤ k ∧ k ≤ 100 then (orF (fun y => mulN l (y : Int) k) (bitsN s.toNat) : Nat) else -1) else -1
end Go.Proofs.YtfkleihnafeoeaaGreatDoor
