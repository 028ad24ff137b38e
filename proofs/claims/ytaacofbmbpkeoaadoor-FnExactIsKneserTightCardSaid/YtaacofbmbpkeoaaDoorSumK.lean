/- The contracts of the program's own SumOfSets, DifferenceOfSets, MultipleSum. -/
import Derived.Test.YtaacofbmbpkeoaaDoorSumJ
namespace Go.Proofs.YtaacofbmbpkeoaaDoor
open Go.RowKit
set_option maxRecDepth 1000000
theorem iSetsIn_no (w : World) (a : Option Addr) (l : List Int) (n cap : Nat) (s t : Int) (hn : n = l.length) (hm : n ≤ 9223372036854775807) (hi : Ints w a l) (h : two l s t = false) :
    Calls Tryd.prog 52 #[.agg #[.slice a n cap], .int .i64 s, .int .i64 t] w fun e w' => ∃ p q r u v, e = .returned (.tuple #[tV p q r, .int .u64 u, .int .u64 v, .bool false]) ∧ Below w.heap.size w w' := by
  have := iSetsIn w a l n cap s t hn hm hi
  unfold SetsInPost at this
  rw [h] at this
  exact this.mono fun e w' ⟨p, q, r, u, v, h1, _, h3⟩ => ⟨p, q, r, u, v, h1, h3⟩
theorem iSetsIn_yes (w : World) (a : Option Addr) (l : List Int) (n cap : Nat) (s t : Int) (hn : n = l.length) (hm : n ≤ 9223372036854775807) (hi : Ints w a l) (h : two l s t = true) :
    Calls Tryd.prog 52 #[.agg #[.slice a n cap], .int .i64 s, .int .i64 t] w fun e w' => e = .returned (.tuple #[tV (l.getD 0 1) (l.getD 1 1) (l.getD 2 1), .int .u64 s, .int .u64 t, .bool true]) ∧ Below w.heap.size w w' := by
  have := iSetsIn w a l n cap s t hn hm hi
  unfold SetsInPost at this
  rw [h] at this
  exact this.mono fun e w' ⟨p, q, r, u, v, h1, h2, h3⟩ => by
    obtain ⟨rfl, rfl, rfl, rfl, rfl⟩ := h2 rfl
    exact ⟨h1, h3⟩
/-- Both are sets: what is known of them. -/
theorem two_true {l : List Int} {s t : Int} (h : two l s t = true) : grpB l = true ∧ ∃ a b : Nat, s = (a : Int) ∧ t = (b : Int) ∧ a < 2 ^ (prodI l).toNat ∧ b < 2 ^ (prodI l).toNat := by
  unfold two at h
  rw [Bool.and_eq_true] at h
  obtain ⟨hg, a, h1, h2, _⟩ := isS_true h.1
  obtain ⟨_, b, h3, h4, _⟩ := isS_true h.2
  exact ⟨hg, a, b, h1, h3, h2, h4⟩
theorem shG_mov {l : List Int} (hg : grpB l = true) (t x : Nat) : shG (l.getD 0 1) (l.getD 1 1) (l.getD 2 1) t x = movN l t x := (sh_tri hg (x : Int) (bitsN t)).symm
theorem sum_prog {l : List Int} (hg : grpB l = true) {s t : Nat} (hs : s < 2 ^ (prodI l).toNat) (ht : t < 2 ^ (prodI l).toNat) :
    orG (fun x => shG (l.getD 0 1) (l.getD 1 1) (l.getD 2 1) t x) (bitsN s) = sumN l s t := by
  rw [orG_congr _ (fun x => movN l t x) _ (fun x _ => shG_mov hg t x)]
  exact sumN_comm l (grp_pow hg ht) (grp_pow hg hs)
theorem dif_sum (l : List Int) (s t : Int) : sumE l s (ngE l t) = difE l s t := by
  cases ht : isS l t with
  | false =>
    have e : ngE l t = -1 := by unfold ngE; rw [if_neg (by simp [ht])]
    unfold sumE difE two
    rw [e, isS_neg (l := l) (show (-1 : Int) < 0 by decide), ht, Bool.and_false, if_neg (by simp), if_neg (by simp)]
  | true =>
    obtain ⟨hg, t, rfl, htn, _⟩ := isS_true ht
    have e : ngE l (t : Int) = ((ngN l t : Nat) : Int) := by unfold ngE; rw [if_pos ht]; rfl
    unfold sumE difE two
    rw [e, isS_of hg (ngN_lt hg t), ht]; rfl
set_option maxHeartbeats 4000000 in
theorem iSumS (w : World) (a : Option Addr) (l : List Int) (n cap : Nat) (s t : Int) (hn : n = l.length) (hm : n ≤ 9223372036854775807) (hi : Ints w a l) (B : Nat) (hB0 : B ≤ w.heap.size) (ht : TabZ B w) :
    Calls Tryd.prog 33 #[.agg #[.slice a n cap], .int .i64 s, .int .i64 t] w fun e w' => e = .returned (.int .i64 (sumE l s t)) ∧ Below w.heap.size w w' := by
  have HTZ := Lib.hid ht
  clear ht
  have HI := Lib.hid (ints_alloc hi (.cells #[.slice a n cap] 27))
  have HN := Lib.hid hn
  have C1 := newC w (.slice a n cap) 27 (n := w.heap.size) rfl
  have HB := Lib.hid (Joins.below_alloc1 w (.cells #[.slice a n cap] 27))
  have T0 := Lib.hid (Below.refl (w.alloc (.cells #[.slice a n cap] 27)).heap.size (w.alloc (.cells #[.slice a n cap] 27)))
  clear hi hn
  cases hs : two l s t with
  | false =>
    have HS := Lib.hid hs
    rw [show sumE l s t = -1 by unfold sumE; rw [if_neg (by simp [hs])]]
    clear hs
    go_enter Tryd.func33, Tryd.ntmps33
    go_wp2_with (go_at_call 52; refine (iSetsIn_no _ _ _ _ _ _ _ HN.out hm (HI.out.below rfl T0.out) HS.out).mono ?_; rintro e w1 ⟨p, q, r, u, v, rfl, hb1⟩)
    go_ret
    exact ⟨rfl, HB.out.trans (Below.alloc (hb1.mono (by simp)) (Nat.le_trans (by simp) hb1.size) _)⟩
  | true =>
    have HS := Lib.hid hs
    obtain ⟨hg, s, t, rfl, rfl, hsn, htn⟩ := two_true hs
    rw [show sumE l s t = (sumN l s t : Nat) by unfold sumE; rw [if_pos hs]; rfl]
    have HT := Lib.hid (tri_grp hg)
    have HP := prod_pad (grpB_true hg).1
    have HV := Lib.hid (sum_prog hg hsn htn)
    have hVl : sumN l s t < 16777216 := grp_pow hg (sumN_lt hg s t)
    rw [HP] at hsn htn
    obtain ⟨p, EP⟩ : ∃ p, Hid (l.getD 0 1 = p) := ⟨_, Lib.hid rfl⟩
    obtain ⟨q, EQ⟩ : ∃ q, Hid (l.getD 1 1 = q) := ⟨_, Lib.hid rfl⟩
    obtain ⟨r, ER⟩ : ∃ r, Hid (l.getD 2 1 = r) := ⟨_, Lib.hid rfl⟩
    rw [EP.out, EQ.out, ER.out] at HT HV hsn htn
    have HA := Lib.hid hsn
    have HC := Lib.hid htn
    obtain ⟨V, EV⟩ : ∃ V, Hid (sumN l s t = V) := ⟨_, Lib.hid rfl⟩
    rw [EV.out] at HV hVl
    rw [EV.out]
    clear hs hg HP hsn htn
    go_enter Tryd.func33, Tryd.ntmps33
    go_wp2_with (first
      | (go_at_call 45; refine (iSum _ p q r s t HT.out HA.out HC.out B (Nat.le_trans hB0 TA.out.size) (HTZ.out.on (TA.out.mono hB0))).mono ?_; rw [HV.out]; rintro e w2 ⟨rfl, hb2⟩)
      | (go_at_call 52; refine (iSetsIn_yes _ _ _ _ _ _ _ HN.out hm (HI.out.below rfl T0.out) HS.out).mono ?_; rw [EP.out, EQ.out, ER.out]; rintro e w1 ⟨rfl, hb1⟩; have TA := Lib.hid ((HB.out.trans (hb1.mono (by simp))).alloc (Nat.le_trans (by simp) hb1.size) (.cells #[.int .i64 p, .int .i64 q, .int .i64 r] 45)); obtain ⟨y0, y1, y2, _, _, _⟩ := trip_cell (heap_alloc_new w1 (.cells #[.int .i64 p, .int .i64 q, .int .i64 r] 45))))
    go_ret
    exact ⟨rfl, TA.out.trans (hb2.mono TA.out.size)⟩
theorem pow_prog {l : List Int} (hg : grpB l = true) {s : Nat} (hs : s < 2 ^ (prodI l).toNat) (k : Nat) :
    orG (fun x => shG (l.getD 0 1) (l.getD 1 1) (l.getD 2 1) s x) (bitsN (powS l s k)) = powS l s (k + 1) := sum_prog hg (powS_lt hg s k) hs
end Go.Proofs.YtaacofbmbpkeoaaDoor
