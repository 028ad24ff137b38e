/- The library's sort of sets: the choice of the pivot. -/
import Derived.Test.YtiponiflebmooaaSrt5
namespace Go.Proofs.Ytiponiflebmooaa
open Go.RowKit
set_option maxRecDepth 1000000
def hintV : Sort.Hint → Value
  | .unknown => .int .i64 0
  | .increasing => .int .i64 1
  | .decreasing => .int .i64 2
/-- The row and the call's own counter behind it. -/
structure SRC (w0 : World) (g sb : Nat) (pre tl : List Value) (d : Array Nat) : Prop where
  row : SR w0 g pre tl d
  ne : g ≠ sb
theorem SRC.keep' {w0 w' : World} {g sb : Nat} {pre tl : List Value} {d : Array Nat} (h : SRC w0 g sb pre tl d) (hg : w0.grownBy w' (some sb)) : SR w' g pre tl d := h.row.keep hg h.ne
theorem med_bnd (d : Array Nat) {n a b c : Nat} (ha : a < n) (hb : b < n) (hc : c < n) (s : Nat) : (Sort.median ltN d a b c s).1 < n ∧ (Sort.median ltN d a b c s).2 ≤ s + 3 := by
  have hO : ∀ (x y u : Nat), x < n → y < n → (Sort.order2 ltN d x y u).1 < n ∧ (Sort.order2 ltN d x y u).2.1 < n ∧ (Sort.order2 ltN d x y u).2.2 ≤ u + 1 := fun x y u hx hy => by
    unfold Sort.order2
    split
    · exact ⟨hy, hx, Nat.le_refl _⟩
    · exact ⟨hx, hy, Nat.le_succ _⟩
  have q1 := hO a b s ha hb
  have q2 := hO _ c (Sort.order2 ltN d a b s).2.2 q1.2.1 hc
  have q3 := hO _ _ (Sort.order2 ltN d (Sort.order2 ltN d a b s).2.1 c (Sort.order2 ltN d a b s).2.2).2.2 q1.1 q2.1
  unfold Sort.median
  simp only
  exact ⟨q3.2.1, by have := q1.2.2; have := q2.2.2; have := q3.2.2; omega⟩
theorem below_grown_new {w w' : World} {C : Obj} (h : (w.alloc C).grownBy w' (some w.heap.size)) : Below w.heap.size (w.alloc C) w' :=
  (Below.refl w.heap.size (w.alloc C)).grown h (by simp) (fun q hq => by cases hq; exact Nat.le_refl _)
set_option maxHeartbeats 8000000 in
theorem srtPiv (w : World) (g off : Nat) (pre tl : List Value) (d : Array Nat) (n cap a b : Nat) (ho : pre.length = off) (hn : n = d.size) (hab : a + 12 < b) (hb : b ≤ n) (hn24 : n ≤ 16777216) (h : SR w g pre tl d) :
    Calls Try.prog 44 #[.slice (some ⟨g, off, none⟩) n cap, .int .i64 a, .int .i64 b] w fun e w' => e = .returned (.tuple #[.int .i64 (Sort.choosePivot ltN d a b).1, hintV (Sort.choosePivot ltN d a b).2]) ∧ Below w.heap.size w w' ∧ (Sort.choosePivot ltN d a b).1 < n := by
  obtain ⟨L, hL⟩ : ∃ L, L = b - a := ⟨_, rfl⟩
  obtain ⟨Q, hQ⟩ : ∃ Q, Q = L / 4 := ⟨_, rfl⟩
  obtain ⟨I, hI⟩ : ∃ I, I = a + Q := ⟨_, rfl⟩
  obtain ⟨J, hJ⟩ : ∃ J, J = a + Q * 2 := ⟨_, rfl⟩
  obtain ⟨K, hK⟩ : ∃ K, K = a + Q * 3 := ⟨_, rfl⟩
  have eL : (b : Int) - (a : Int) = (L : Int) := by omega
  have eQ : ((L : Int)).tdiv 4 = (Q : Int) := by rw [Int.tdiv_eq_ediv_of_nonneg (by omega)]; omega
  have eI : (a : Int) + (Q : Int) = (I : Int) := by omega
  have eJ : (a : Int) + (Q : Int) * 2 = (J : Int) := by omega
  have eK : (a : Int) + (Q : Int) * 3 = (K : Int) := by omega
  have hL8 : (8 : Int) ≤ (L : Int) := by omega
  have hQ24 : Q ≤ 16777216 := by omega
  have hL24 : L ≤ 16777216 := by omega
  have hKn : K + 1 < n := by omega
  have hIn : I + 1 < n := by omega
  have hJn : J + 1 < n := by omega
  have HB := Lib.hid (Joins.below_alloc1 w (.cells #[.int .i64 0] 3))
  have HC0 : Hid (Cnt (w.alloc (.cells #[.int .i64 0] 3)) w.heap.size 0) := Lib.hid (heap_alloc_new w (.cells #[.int .i64 0] 3))
  have HS : Hid (SRC (w.alloc (.cells #[.int .i64 0] 3)) g w.heap.size pre tl d) := Lib.hid ⟨(keepH (Joins.below_alloc1 w (.cells #[.int .i64 0] 3)) h.lt h), Nat.ne_of_lt h.lt⟩
  have K0 : Hid (Cnt (w.alloc (.cells #[.int .i64 0] 3)) w.heap.size 0 ∧ (w.alloc (.cells #[.int .i64 0] 3)).grownBy (w.alloc (.cells #[.int .i64 0] 3)) (some w.heap.size)) := Lib.hid ⟨HC0.out, World.grownBy.refl _ _⟩
  have hne : g ≠ w.heap.size := Nat.ne_of_lt h.lt
  by_cases h50 : 50 ≤ L
  · have h50' : (50 : Int) ≤ (L : Int) := by omega
    obtain ⟨i1, s1, m1⟩ : ∃ i1 s1, Sort.medianAdjacent ltN d I 0 = (i1, s1) := ⟨_, _, rfl⟩
    obtain ⟨j1, s2, m2⟩ : ∃ j1 s2, Sort.medianAdjacent ltN d J s1 = (j1, s2) := ⟨_, _, rfl⟩
    obtain ⟨k1, s3, m3⟩ : ∃ k1 s3, Sort.medianAdjacent ltN d K s2 = (k1, s3) := ⟨_, _, rfl⟩
    obtain ⟨MM, SS, m4⟩ : ∃ m s, Sort.median ltN d i1 j1 k1 s3 = (m, s) := ⟨_, _, rfl⟩
    have HCP : Hid (Sort.choosePivot ltN d a b = (MM, if SS = 0 then Sort.Hint.increasing else if SS = 12 then Sort.Hint.decreasing else Sort.Hint.unknown)) := Lib.hid (by
      unfold Sort.choosePivot
      simp only [← hL, ← hQ, Nat.mul_one, ← hI, ← hJ, ← hK, ge_iff_le, h50, show 8 ≤ L by omega, if_true, m1, m2, m3, m4])
    have q1 := (med_bnd d (show I - 1 < n by omega) (show I < n by omega) (show I + 1 < n by omega) 0)
    rw [show Sort.median ltN d (I - 1) I (I + 1) 0 = (i1, s1) from m1] at q1
    have q2 := (med_bnd d (show J - 1 < n by omega) (show J < n by omega) (show J + 1 < n by omega) s1)
    rw [show Sort.median ltN d (J - 1) J (J + 1) s1 = (j1, s2) from m2] at q2
    have q3 := (med_bnd d (show K - 1 < n by omega) (show K < n by omega) (show K + 1 < n by omega) s2)
    rw [show Sort.median ltN d (K - 1) K (K + 1) s2 = (k1, s3) from m3] at q3
    have q4 := med_bnd d q1.1 q2.1 q3.1 s3
    rw [m4] at q4
    simp only at q1 q2 q3 q4
    have HMN := Lib.hid q4.1
    have CA1 := Lib.hid (fun (W : World) (hW : SR W g pre tl d) (hC : Cnt W w.heap.size 0) => srtAdj W g off pre tl d n cap I w.heap.size 0 ho hn (by omega) hIn hn24 (by omega) hW hC hne)
    have CA2 := Lib.hid (fun (W : World) (hW : SR W g pre tl d) (hC : Cnt W w.heap.size s1) => srtAdj W g off pre tl d n cap J w.heap.size s1 ho hn (by omega) hJn hn24 (by omega) hW hC hne)
    have CA3 := Lib.hid (fun (W : World) (hW : SR W g pre tl d) (hC : Cnt W w.heap.size s2) => srtAdj W g off pre tl d n cap K w.heap.size s2 ho hn (by omega) hKn hn24 (by omega) hW hC hne)
    have CM := Lib.hid (fun (W : World) (hW : SR W g pre tl d) (hC : Cnt W w.heap.size s3) => srtMed W g off pre tl d n cap i1 j1 k1 w.heap.size s3 ho hn q1.1 q2.1 q3.1 hn24 (by omega) hW hC hne)
    rw [m1] at CA1
    rw [m2] at CA2
    rw [m3] at CA3
    rw [m4] at CM
    clear m1 m2 m3 m4 q1 q2 q3 q4 h ho hn hL hQ hI hJ hK
    by_cases z0 : SS = 0
    · subst z0
      have HF : Hid (Sort.choosePivot ltN d a b = (MM, Sort.Hint.increasing)) := Lib.hid (by rw [HCP.out]; rfl)
      rw [HF.out]
      go_enter Try.func44, Try.ntmps44
      go_wp2_with (first
        | (go_at_call 56; have hx_ := K3; clear hx_; refine (CM.out _ (HS.out.keep' K3.out.2) K3.out.1).mono ?_; rintro e w4 ⟨rfl, hc4, hg4, _, _⟩; obtain ⟨cs4, fs4⟩ := hc4.cell; have KK := Lib.hid (below_grown_new (grown_trans K3.out.2 hg4)); have K4 := Lib.hid (And.intro hc4 (grown_trans K3.out.2 hg4)); clear hc4 hg4)
        | (go_at_call 55; have hx_ := K2; clear hx_; refine (CA3.out _ (HS.out.keep' K2.out.2) K2.out.1).mono ?_; rintro e w3 ⟨rfl, hc3, hg3, _, _⟩; have K3 := Lib.hid (And.intro hc3 (grown_trans K2.out.2 hg3)); clear hc3 hg3)
        | (go_at_call 55; have hx_ := K1; clear hx_; refine (CA2.out _ (HS.out.keep' K1.out.2) K1.out.1).mono ?_; rintro e w2 ⟨rfl, hc2, hg2, _, _⟩; have K2 := Lib.hid (And.intro hc2 (grown_trans K1.out.2 hg2)); clear hc2 hg2)
        | (go_at_call 55; refine (CA1.out _ (HS.out.keep' K0.out.2) K0.out.1).mono ?_; rintro e w1 ⟨rfl, hc1, hg1, _, _⟩; have K1 := Lib.hid (And.intro hc1 (grown_trans K0.out.2 hg1)); clear hc1 hg1))
      go_ret2
      exact ⟨rfl, HB.out.trans (KK.out.mono (by simp)), HMN.out⟩
    · by_cases z1 : SS = 12
      · subst z1
        have HF : Hid (Sort.choosePivot ltN d a b = (MM, Sort.Hint.decreasing)) := Lib.hid (by rw [HCP.out]; rfl)
        rw [HF.out]
        go_enter Try.func44, Try.ntmps44
        go_wp2_with (first
          | (go_at_call 56; have hx_ := K3; clear hx_; refine (CM.out _ (HS.out.keep' K3.out.2) K3.out.1).mono ?_; rintro e w4 ⟨rfl, hc4, hg4, _, _⟩; obtain ⟨cs4, fs4⟩ := hc4.cell; have KK := Lib.hid (below_grown_new (grown_trans K3.out.2 hg4)); have K4 := Lib.hid (And.intro hc4 (grown_trans K3.out.2 hg4)); clear hc4 hg4)
          | (go_at_call 55; have hx_ := K2; clear hx_; refine (CA3.out _ (HS.out.keep' K2.out.2) K2.out.1).mono ?_; rintro e w3 ⟨rfl, hc3, hg3, _, _⟩; have K3 := Lib.hid (And.intro hc3 (grown_trans K2.out.2 hg3)); clear hc3 hg3)
          | (go_at_call 55; have hx_ := K1; clear hx_; refine (CA2.out _ (HS.out.keep' K1.out.2) K1.out.1).mono ?_; rintro e w2 ⟨rfl, hc2, hg2, _, _⟩; have K2 := Lib.hid (And.intro hc2 (grown_trans K1.out.2 hg2)); clear hc2 hg2)
          | (go_at_call 55; refine (CA1.out _ (HS.out.keep' K0.out.2) K0.out.1).mono ?_; rintro e w1 ⟨rfl, hc1, hg1, _, _⟩; have K1 := Lib.hid (And.intro hc1 (grown_trans K0.out.2 hg1)); clear hc1 hg1))
        go_ret2
        exact ⟨rfl, HB.out.trans (KK.out.mono (by simp)), HMN.out⟩
      · have y0 : ((SS : Int) == 0) = false := by simp; omega
        have y1 : ((SS : Int) == 12) = false := by
          have : (SS : Int) ≠ 12 := by omega
          simpa using this
        have HF : Hid (Sort.choosePivot ltN d a b = (MM, Sort.Hint.unknown)) := Lib.hid (by rw [HCP.out, if_neg z0, if_neg z1])
        rw [HF.out]
        go_enter Try.func44, Try.ntmps44
        go_wp2_with (first
          | (go_at_call 56; have hx_ := K3; clear hx_; refine (CM.out _ (HS.out.keep' K3.out.2) K3.out.1).mono ?_; rintro e w4 ⟨rfl, hc4, hg4, _, _⟩; obtain ⟨cs4, fs4⟩ := hc4.cell; have KK := Lib.hid (below_grown_new (grown_trans K3.out.2 hg4)); have K4 := Lib.hid (And.intro hc4 (grown_trans K3.out.2 hg4)); clear hc4 hg4)
          | (go_at_call 55; have hx_ := K2; clear hx_; refine (CA3.out _ (HS.out.keep' K2.out.2) K2.out.1).mono ?_; rintro e w3 ⟨rfl, hc3, hg3, _, _⟩; have K3 := Lib.hid (And.intro hc3 (grown_trans K2.out.2 hg3)); clear hc3 hg3)
          | (go_at_call 55; have hx_ := K1; clear hx_; refine (CA2.out _ (HS.out.keep' K1.out.2) K1.out.1).mono ?_; rintro e w2 ⟨rfl, hc2, hg2, _, _⟩; have K2 := Lib.hid (And.intro hc2 (grown_trans K1.out.2 hg2)); clear hc2 hg2)
          | (go_at_call 55; refine (CA1.out _ (HS.out.keep' K0.out.2) K0.out.1).mono ?_; rintro e w1 ⟨rfl, hc1, hg1, _, _⟩; have K1 := Lib.hid (And.intro hc1 (grown_trans K0.out.2 hg1)); clear hc1 hg1))
        go_ret2
        exact ⟨rfl, HB.out.trans (KK.out.mono (by simp)), HMN.out⟩
  · have h50' : ¬ (50 : Int) ≤ (L : Int) := by omega
    obtain ⟨MM, SS, m4⟩ : ∃ m s, Sort.median ltN d I J K 0 = (m, s) := ⟨_, _, rfl⟩
    have HCP : Hid (Sort.choosePivot ltN d a b = (MM, if SS = 0 then Sort.Hint.increasing else if SS = 12 then Sort.Hint.decreasing else Sort.Hint.unknown)) := Lib.hid (by
      unfold Sort.choosePivot
      simp only [← hL, ← hQ, Nat.mul_one, ← hI, ← hJ, ← hK, ge_iff_le, h50, show 8 ≤ L by omega, if_true, if_false, m4])
    have q4 := med_bnd d (show I < n by omega) (show J < n by omega) (show K < n by omega) 0
    rw [m4] at q4
    simp only at q4
    have HMN := Lib.hid q4.1
    have CM := Lib.hid (fun (W : World) (hW : SR W g pre tl d) (hC : Cnt W w.heap.size 0) => srtMed W g off pre tl d n cap I J K w.heap.size 0 ho hn (by omega) (by omega) (by omega) hn24 (by omega) hW hC hne)
    rw [m4] at CM
    clear m4 q4 h ho hn hL hQ hI hJ hK
    by_cases z0 : SS = 0
    · subst z0
      have HF : Hid (Sort.choosePivot ltN d a b = (MM, Sort.Hint.increasing)) := Lib.hid (by rw [HCP.out]; rfl)
      rw [HF.out]
      go_enter Try.func44, Try.ntmps44
      go_wp2_with (first
        | (go_at_call 56; refine (CM.out _ (HS.out.keep' K0.out.2) K0.out.1).mono ?_; rintro e w4 ⟨rfl, hc4, hg4, _, _⟩; obtain ⟨cs4, fs4⟩ := hc4.cell; have KK := Lib.hid (below_grown_new (grown_trans K0.out.2 hg4)); have K4 := Lib.hid (And.intro hc4 (grown_trans K0.out.2 hg4)); clear hc4 hg4))
      go_ret2
      exact ⟨rfl, HB.out.trans (KK.out.mono (by simp)), HMN.out⟩
    · by_cases z1 : SS = 12
      · subst z1
        have HF : Hid (Sort.choosePivot ltN d a b = (MM, Sort.Hint.decreasing)) := Lib.hid (by rw [HCP.out]; rfl)
        rw [HF.out]
        go_enter Try.func44, Try.ntmps44
        go_wp2_with (first
          | (go_at_call 56; refine (CM.out _ (HS.out.keep' K0.out.2) K0.out.1).mono ?_; rintro e w4 ⟨rfl, hc4, hg4, _, _⟩; obtain ⟨cs4, fs4⟩ := hc4.cell; have KK := Lib.hid (below_grown_new (grown_trans K0.out.2 hg4)); have K4 := Lib.hid (And.intro hc4 (grown_trans K0.out.2 hg4)); clear hc4 hg4))
        go_ret2
        exact ⟨rfl, HB.out.trans (KK.out.mono (by simp)), HMN.out⟩
      · have y0 : ((SS : Int) == 0) = false := by simp; omega
        have y1 : ((SS : Int) == 12) = false := by
          have : (SS : Int) ≠ 12 := by omega
          simpa using this
        have HF : Hid (Sort.choosePivot ltN d a b = (MM, Sort.Hint.unknown)) := Lib.hid (by rw [HCP.out, if_neg z0, if_neg z1])
        rw [HF.out]
        go_enter Try.func44, Try.ntmps44
        go_wp2_with (first
          | (go_at_call 56; refine (CM.out _ (HS.out.keep' K0.out.2) K0.out.1).mono ?_; rintro e w4 ⟨rfl, hc4, hg4, _, _⟩; obtain ⟨cs4, fs4⟩ := hc4.cell; have KK := Lib.hid (below_grown_new (grown_trans K0.out.2 hg4)); have K4 := Lib.hid (And.intro hc4 (grown_trans K0.out.2 hg4)); clear hc4 hg4))
        go_ret2
        exact ⟨rfl, HB.out.trans (KK.out.mono (by simp)), HMN.out⟩
end Go.Proofs.Ytiponiflebmooaa
