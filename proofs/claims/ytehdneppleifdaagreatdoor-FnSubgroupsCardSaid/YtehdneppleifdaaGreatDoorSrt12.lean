/- The library's sort of sets, as a whole: an ascending permutation of the row. -/
import Derived.Test.YtehdneppleifdaaGreatDoorSrt11
import Derived.Test.YtehdneppleifdaaGreatDoorShelf2
namespace Go.Proofs.YtehdneppleifdaaGreatDoor
open Go.RowKit
set_option maxRecDepth 1000000
/-- Sorted by the library's word, said of lists. -/
theorem srt_list {d d' : Array Nat} (hp : Sort.PermIn 0 d.size d d') (hs : Sort.SortedIn ltN 0 d.size d') : d'.toList.Perm d.toList ∧ d'.toList.Pairwise (· ≤ ·) := by
  obtain ⟨h1, _, h3⟩ := hp
  constructor
  · have e1 : d'.extract 0 d.size = d' := by rw [← h1]; exact Array.extract_size
    have e2 : d.extract 0 d.size = d := Array.extract_size
    rw [e1, e2] at h3
    exact h3
  · rw [List.pairwise_iff_getElem]
    intro i j hi hj hij
    have hj2 : j < d'.size := by simpa using hj
    have hi2 : i < d'.size := by simpa using hi
    have h := hs i j (Nat.zero_le _) hij (by omega)
    simp only [ltN, decide_eq_false_iff_not, getElem!_pos d' i hi2, getElem!_pos d' j hj2] at h
    simp only [Array.getElem_toList]
    omega
theorem bitLenAux_le : ∀ f x : Nat, Lib.bitLenAux f x ≤ f
  | 0, _ => Nat.le_refl 0
  | f + 1, x => by
    have := bitLenAux_le f (x / 2)
    show (if x = 0 then 0 else 1 + Lib.bitLenAux f (x / 2)) ≤ f + 1
    split <;> omega
theorem bitLen_small (n : Nat) : Lib.bitLen n ≤ 16777216 := Nat.le_trans (bitLenAux_le 64 n) (by decide)
set_option maxHeartbeats 4000000 in
theorem srtSort (w : World) (g off : Nat) (pre tl : List Value) (d : Array Nat) (n cap : Nat) (ho : pre.length = off) (hn : n = d.size) (hn24 : n ≤ 16777216) (h : SR w g pre tl d) :
    Calls Tryz.prog 78 #[.slice (some ⟨g, off, none⟩) n cap] w fun e w' => e = .returned (.tuple #[]) ∧ ∃ d' : Array Nat, SR w' g pre tl d' ∧ d'.toList.Perm d.toList ∧ d'.toList.Pairwise (· ≤ ·) ∧ w.grownBy w' (some g) := by
  obtain ⟨B, hB⟩ : ∃ B, Lib.bitLen n = B := ⟨_, rfl⟩
  have hB24 : B ≤ 16777216 := by rw [← hB]; exact bitLen_small n
  have CB := Lib.hid (Tryz.bits_Len (n : Int) w (by omega) (by omega))
  rw [show ((n : Int)).toNat = n from Int.toNat_natCast n, hB] at CB
  have CP := Lib.hid (srtPdq (n + 1) w g off pre tl d n cap 0 n B (by omega) ho hn (by omega) (Nat.le_refl _) hn24 hB24 h (Or.inl rfl))
  have HS := Lib.hid (Sort.pdq_sorts ltN swoN d 0 n B true true (Nat.zero_le _) (by omega) (Or.inl rfl))
  have HN := Lib.hid hn
  have c0 : ((0 : Nat) : Int) = 0 := rfl
  rw [c0] at CP
  clear h hn ho hB
  go_enter Tryz.func78, Tryz.ntmps78
  go_wp2_with (first | (go_at_call 84; refine CP.out.mono ?_; rintro e w2 ⟨rfl, hs2, hg2⟩) | (go_at_call 85; refine CB.out.mono ?_; rintro e w1 ⟨rfl, hw1⟩; subst hw1))
  go_end0
  have h3 := srt_list (d := d) (by rw [← HN.out]; exact HS.out.1) (by rw [← HN.out]; exact HS.out.2)
  exact ⟨rfl, _, hs2, h3.1, h3.2, hg2⟩
end Go.Proofs.YtehdneppleifdaaGreatDoor
