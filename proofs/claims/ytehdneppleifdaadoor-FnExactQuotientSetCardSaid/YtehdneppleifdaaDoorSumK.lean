/- The contracts of the program's own SumOfSets, DifferenceOfSets, MultipleSum. -/
import Derived.Test.YtehdneppleifdaaDoorSumJ
namespace Go.Proofs.YtehdneppleifdaaDoor
open Go.RowKit
set_option maxRecDepth 1000000
/-- Both are sets: what is known of them. -/
theorem two_true {l : List Int} {s t : Int} (h : two l s t = true) : grpB l = true ∧ ∃ a b : Nat, s = (a : Int) ∧ t = (b : Int) ∧ a < 2 ^ (prodI l).toNat ∧ b < 2 ^ (prodI l).toNat := by
  unfold two at h
  rw [Bool.and_eq_true] at h
  obtain ⟨hg, a, h1, h2, _⟩ := isS_true h.1
  obtain ⟨_, b, h3, h4, _⟩ := isS_true h.2
  exact ⟨hg, a, b, h1, h3, h2, h4⟩
theorem shG_mov {l : List Int} (hg : grpB l = true) (t x : Nat) : shG (l.getD 0 1) (l.getD 1 1) (l.getD 2 1) t x = movN l t x := (sh_tri hg (x : Int) (bitsN t)).symm
theorem sum_prog {l : List Int} (hg : grpB l = true) {s t : Nat} (hs : s < 2 ^ (prodI l).toNat) (ht : t < 2 ^ (prodI l).toNat) :
    orG (fun x => shG (l.getD 0 1) (l.getD 1 1) (l.getD 2 1) t x) (bitsN s) = sumN l s t := by
  rw [orG_congr _ (fun x => movN l t x) _ (fun x _ => shG_mov hg t x)]
  exact sumN_comm l (grp_pow hg ht) (grp_pow hg hs)
theorem dif_sum (l : List Int) (s t : Int) : sumE l s (ngE l t) = difE l s t := by
  cases ht : isS l t with
  | false =>
    have e : ngE l t = -1 := by unfold ngE; rw [if_neg (by simp [ht])]
    unfold sumE difE two
    rw [e, isS_neg (l := l) (show (-1 : Int) < 0 by decide), ht, Bool.and_false, if_neg (by simp), if_neg (by simp)]
  | true =>
    obtain ⟨hg, t, rfl, htn, _⟩ := isS_true ht
    have e : ngE l (t : Int) = ((ngN l t : Nat) : Int) := by unfold ngE; rw [if_pos ht]; rfl
    unfold sumE difE two
    rw [e, isS_of hg (ngN_lt hg t), ht]; rfl
theorem pow_prog {l : List Int} (hg : grpB l = true) {s : Nat} (hs : s < 2 ^ (prodI l).toNat) (k : Nat) :
    orG (fun x => shG (l.getD 0 1) (l.getD 1 1) (l.getD 2 1) s x) (bitsN (powS l s k)) = powS l s (k + 1) := sum_prog hg (powS_lt hg s k) hs
end Go.Proofs.YtehdneppleifdaaDoor
