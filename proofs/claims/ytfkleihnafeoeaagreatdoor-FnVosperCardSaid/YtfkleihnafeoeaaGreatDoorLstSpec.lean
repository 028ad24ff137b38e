/- The list of the elements of a set: spec.l3List, and ListOf of the document's reading and of the program. -/
import Derived.Test.YtfkleihnafeoeaaGreatDoorLstN
import Derived.Test.YtfkleihnafeoeaaGreatDoorSetIn
import Derived.Test.YtfkleihnafeoeaaGreatDoorGrpSpec6
namespace Go.Proofs.YtfkleihnafeoeaaGreatDoor
open Go.RowKit
set_option maxRecDepth 1000000
set_option maxHeartbeats 1000000 in
theorem sL3 (w : World) (s : Nat) (h : s < 2 ^ 24) :
    Calls Tryz.prog 41 #[.int .i64 s] w fun e w' => ∃ v, e = .returned v ∧ w'.ownsRow w.heap.size 3 1 v (bitsN s).length (lstN (bitsN s)) ∧ Below w.heap.size w w' := by
  obtain ⟨i0, hi0, hz0, hz1, hz2⟩ := info_parts intInfo
  have HL := Lib.hid h
  have h24 : s < 16777216 := h
  clear h
  have OW : Hid ((w.alloc (.cells #[] 3)).ownsRow w.heap.size 3 1 (.slice (some ⟨w.heap.size, 0, none⟩) 0 0) 0 []) := Lib.hid (by simpa using World.ownsRow_lit (base := w.heap.size) (e := 3) (size := 1) w #[] 0 (by simp) (by simp [maxLen]) rfl)
  have HB := Lib.hid (Joins.below_alloc1 w (.cells #[] 3))
  go_enter Tryz.func41, Tryz.ntmps41
  go_wp2
  go_loopw [3, 4, 5] (fun v i x wr => ∃ k : Nat, k ≤ 24 ∧ i = .int .i64 k ∧ x = .int .i64 ((s / 2 ^ k : Nat) : Int) ∧ wr.ownsRow w.heap.size 3 1 v (upK s k).length (lstN (upK s k)) ∧ Below w.heap.size w wr) (fun _ _ x _ => (intOf x).toNat)
  case atStart => exact ⟨0, by omega, rfl, by simp, OW.out, HB.out⟩
  case round =>
    obtain ⟨k, hk, rfl, rfl, hown, hbel⟩ := hrel
    have hle := Nat.div_le_self s (2 ^ k)
    have hu := upK_len s k
    by_cases h0 : s / 2 ^ k = 0
    · have HF := Lib.hid (upK_full (div_zero h0) hk)
      rw [HF.out] at hown
      have HOW := Lib.hid hown
      have HBL := Lib.hid hbel
      rw [h0]
      clear hown hbel
      go_wp2
      go_ret
      exact ⟨_, rfl, HOW.out, HBL.out⟩
    · have hk24 : k < 24 := by
        rcases Nat.lt_or_ge k 24 with h | h
        · exact h
        · exfalso; apply h0
          have : k = 24 := by omega
          subst this
          exact Nat.div_eq_of_lt HL.out
      have HQ : Hid (s / 2 ^ k / 2 = s / 2 ^ (k + 1)) := Lib.hid (by rw [Nat.div_div_eq_div_mul, Nat.pow_succ])
      have hb := bit_iff s k
      have hul := Nat.lt_of_le_of_lt hu hk24
      cases hbt : s.testBit k with
      | true =>
        have hone := hb.1 hbt
        have HU := Lib.hid (upK_yes hbt)
        have HOW := Lib.hid hown
        have HBL := Lib.hid hbel
        clear hb hbt hown hbel
        generalize s / 2 ^ k = q at *
        have ha := and1 q (by omega)
        rw [hone] at ha
        go_wp2_with (at_builtin; refine wpList_append_own _ rfl _ _ 24 rfl w.heap.size 3 i0 (.int .i64 0) 1 8 Tryz.underlying24 hi0 hz0 hz1 hz2 rfl (by decide) _ _ _ rfl (HOW.out.alloc _) ⟨wr.heap.size, 0, none⟩ 1 1 [.int .i64 (k : Nat)] rfl rfl ?c1 ?c2 ?c3 ?c4 ?c5 ?_)
        case c1 =>
          intro q u2 hq
          match q, hq with
          | 0, hq => simp at hq; subst hq; simp [Addr.add]
        case c2 => intro u2 hu2; simp at hu2; subst hu2; rfl
        case c3 => unfold maxLen; omega
        case c4 => omega
        case c5 => have := HBL.out.size; simp at *; omega
        intro v' w4 hown' hgrow _
        have HBW : Hid (Below w.heap.size w w4) := Lib.hid ((HBL.out.alloc HBL.out.size _).grown hgrow (by have := HBL.out.size; simp at *; omega) (fun g hg => (HOW.out.lt g hg).1))
        have HOW4 : Hid (w4.ownsRow w.heap.size 3 1 v' (upK s (k + 1)).length (lstN (upK s (k + 1)))) := Lib.hid (by
          rw [HU.out, lstN_snoc, List.length_append]
          simpa using hown')
        clear hown' hgrow
        go_wp2
        go_roundw
        case rel => exact ⟨k + 1, by omega, by go_num, by rw [← HQ.out]; go_num, HOW4.out, HBW.out⟩
        case measure => simp [intOf]; omega
      | false =>
        have hzero : s / 2 ^ k % 2 = 0 := by
          have : ¬ s / 2 ^ k % 2 = 1 := fun e => by rw [hb.2 e] at hbt; cases hbt
          omega
        have HU := Lib.hid (upK_no hbt)
        have HOW4 : Hid (wr.ownsRow w.heap.size 3 1 _ (upK s (k + 1)).length (lstN (upK s (k + 1)))) := Lib.hid (by rw [HU.out]; exact hown)
        have HBL := Lib.hid hbel
        clear hb hbt hown hbel
        generalize s / 2 ^ k = q at *
        have ha := and1 q (by omega)
        rw [hzero] at ha
        go_wp2
        go_roundw
        case rel => exact ⟨k + 1, by omega, by go_num, by rw [← HQ.out]; go_num, HOW4.out, HBL.out⟩
        case measure => simp [intOf]; omega
/-- The document's list of a set; empty of what is none. -/
def lstE (l : List Int) (s : Int) : List Int := if isS l s = true then (bitsN s.toNat).map fun (x : Nat) => (x : Int) else []
theorem lstE_no {l : List Int} {s : Int} (h : isS l s = false) : lstE l s = [] := by unfold lstE; rw [if_neg (by simp [h])]
theorem lstE_yes {l : List Int} {m : Nat} (h : isS l (m : Int) = true) : (lstE l m).length = (bitsN m).length ∧ (lstE l m).map (Value.int .i64) = lstN (bitsN m) := by
  unfold lstE lstN; rw [if_pos h]; simp
theorem lstE_len (l : List Int) (s : Int) : (lstE l s).length ≤ 24 := by
  unfold lstE
  split
  · simpa using bits_le s.toNat
  · simp
end Go.Proofs.YtfkleihnafeoeaaGreatDoor
