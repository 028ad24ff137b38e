/- Merged: Srt6 Srt7. -/
import Derived.Test.YtehdneppleifdaaGreatDoorMGAJ
import Derived.Test.YtehdneppleifdaaGreatDoorShelf
import Derived.Sort.LotD1
import Derived.Sort.LotD5
namespace Go.Proofs.YtehdneppleifdaaGreatDoor
open Go.RowKit
set_option maxRecDepth 1000000
def hintV : Sort.Hint → Value
  | .unknown => .int .i64 0
  | .increasing => .int .i64 1
  | .decreasing => .int .i64 2
/-- The row and the call's own counter behind it. -/
structure SRC (w0 : World) (g sb : Nat) (pre tl : List Value) (d : Array Nat) : Prop where
  row : SR w0 g pre tl d
  ne : g ≠ sb
theorem SRC.keep' {w0 w' : World} {g sb : Nat} {pre tl : List Value} {d : Array Nat} (h : SRC w0 g sb pre tl d) (hg : w0.grownBy w' (some sb)) : SR w' g pre tl d := h.row.keep hg h.ne
theorem med_bnd (d : Array Nat) {n a b c : Nat} (ha : a < n) (hb : b < n) (hc : c < n) (s : Nat) : (Sort.median ltN d a b c s).1 < n ∧ (Sort.median ltN d a b c s).2 ≤ s + 3 := by
  have hO : ∀ (x y u : Nat), x < n → y < n → (Sort.order2 ltN d x y u).1 < n ∧ (Sort.order2 ltN d x y u).2.1 < n ∧ (Sort.order2 ltN d x y u).2.2 ≤ u + 1 := fun x y u hx hy => by
    unfold Sort.order2
    split
    · exact ⟨hy, hx, Nat.le_refl _⟩
    · exact ⟨hx, hy, Nat.le_succ _⟩
  have q1 := hO a b s ha hb
  have q2 := hO _ c (Sort.order2 ltN d a b s).2.2 q1.2.1 hc
  have q3 := hO _ _ (Sort.order2 ltN d (Sort.order2 ltN d a b s).2.1 c (Sort.order2 ltN d a b s).2.2).2.2 q1.1 q2.1
  unfold Sort.median
  simp only
  exact ⟨q3.2.1, by have := q1.2.2; have := q2.2.2; have := q3.2.2; omega⟩
theorem below_grown_new {w w' : World} {C : Obj} (h : (w.alloc C).grownBy w' (some w.heap.size)) : Below w.heap.size (w.alloc C) w' :=
  (Below.refl w.heap.size (w.alloc C)).grown h (by simp) (fun q hq => by cases hq; exact Nat.le_refl _)
set_option maxHeartbeats 8000000 in
theorem srtPiv (w : World) (g off : Nat) (pre tl : List Value) (d : Array Nat) (n cap a b : Nat) (ho : pre.length = off) (hn : n = d.size) (hab : a + 12 < b) (hb : b ≤ n) (hn24 : n ≤ 16777216) (h : SR w g pre tl d) :
    Calls Tryz.prog 91 #[.slice (some ⟨g, off, none⟩) n cap, .int .i64 a, .int .i64 b] w fun e w' => e = .returned (.tuple #[.int .i64 (Sort.choosePivot ltN d a b).1, hintV (Sort.choosePivot ltN d a b).2]) ∧ Below w.heap.size w w' ∧ (Sort.choosePivot ltN d a b).1 < n := by
  obtain ⟨L, hL⟩ : ∃ L, L = b - a := ⟨_, rfl⟩
  obtain ⟨Q, hQ⟩ : ∃ Q, Q = L / 4 := ⟨_, rfl⟩
  obtain ⟨I, hI⟩ : ∃ I, I = a + Q := ⟨_, rfl⟩
  obtain ⟨J, hJ⟩ : ∃ J, J = a + Q * 2 := ⟨_, rfl⟩
  obtain ⟨K, hK⟩ : ∃ K, K = a + Q * 3 := ⟨_, rfl⟩
  have eL : (b : Int) - (a : Int) = (L : Int) := by omega
  have eQ : ((L : Int)).tdiv 4 = (Q : Int) := by rw [Int.tdiv_eq_ediv_of_nonneg (by omega)]; omega
  have eI : (a : Int) + (Q : Int) = (I : Int) := by omega
  have eJ : (a : Int) + (Q : Int) * 2 = (J : Int) := by omega
  have eK : (a : Int) + (Q : Int) * 3 = (K : Int) := by omega
  have hL8 : (8 : Int) ≤ (L : Int) := by omega
  have hQ24 : Q ≤ 16777216 := by omega
  have hL24 : L ≤ 16777216 := by omega
  have hKn : K + 1 < n := by omega
  have hIn : I + 1 < n := by omega
  have hJn : J + 1 < n := by omega
  have HB := Lib.hid (Joins.below_alloc1 w (.cells #[.int .i64 0] 3))
  have HC0 : Hid (Cnt (w.alloc (.cells #[.int .i64 0] 3)) w.heap.size 0) := Lib.hid (heap_alloc_new w (.cells #[.int .i64 0] 3))
  have HS : Hid (SRC (w.alloc (.cells #[.int .i64 0] 3)) g w.heap.size pre tl d) := Lib.hid ⟨(keepH (Joins.below_alloc1 w (.cells #[.int .i64 0] 3)) h.lt h), Nat.ne_of_lt h.lt⟩
  have K0 : Hid (Cnt (w.alloc (.cells #[.int .i64 0] 3)) w.heap.size 0 ∧ (w.alloc (.cells #[.int .i64 0] 3)).grownBy (w.alloc (.cells #[.int .i64 0] 3)) (some w.heap.size)) := Lib.hid ⟨HC0.out, World.grownBy.refl _ _⟩
  have hne : g ≠ w.heap.size := Nat.ne_of_lt h.lt
  by_cases h50 : 50 ≤ L
  · have h50' : (50 : Int) ≤ (L : Int) := by omega
    obtain ⟨i1, s1, m1⟩ : ∃ i1 s1, Sort.medianAdjacent ltN d I 0 = (i1, s1) := ⟨_, _, rfl⟩
    obtain ⟨j1, s2, m2⟩ : ∃ j1 s2, Sort.medianAdjacent ltN d J s1 = (j1, s2) := ⟨_, _, rfl⟩
    obtain ⟨k1, s3, m3⟩ : ∃ k1 s3, Sort.medianAdjacent ltN d K s2 = (k1, s3) := ⟨_, _, rfl⟩
    obtain ⟨MM, SS, m4⟩ : ∃ m s, Sort.median ltN d i1 j1 k1 s3 = (m, s) := ⟨_, _, rfl⟩
    have HCP : Hid (Sort.choosePivot ltN d a b = (MM, if SS = 0 then Sort.Hint.increasing else if SS = 12 then Sort.Hint.decreasing else Sort.Hint.unknown)) := Lib.hid (by
      unfold Sort.choosePivot
      simp only [← hL, ← hQ, Nat.mul_one, ← hI, ← hJ, ← hK, ge_iff_le, h50, show 8 ≤ L by omega, if_true, m1, m2, m3, m4])
    have q1 := (med_bnd d (show I - 1 < n by omega) (show I < n by omega) (show I + 1 < n by omega) 0)
    rw [show Sort.median ltN d (I - 1) I (I + 1) 0 = (i1, s1) from m1] at q1
    have q2 := (med_bnd d (show J - 1 < n by omega) (show J < n by omega) (show J + 1 < n by omega) s1)
    rw [show Sort.median ltN d (J - 1) J (J + 1) s1 = (j1, s2) from m2] at q2
    have q3 := (med_bnd d (show K - 1 < n by omega) (show K < n by omega) (show K + 1 < n by omega) s2)
    rw [show Sort.median ltN d (K - 1) K (K + 1) s2 = (k1, s3) from m3] at q3
    have q4 := med_bnd d q1.1 q2.1 q3.1 s3
    rw [m4] at q4
    simp only at q1 q2 q3 q4
    have HMN := Lib.hid q4.1
    have CA1 := Lib.hid (fun (W : World) (hW : SR W g pre tl d) (hC : Cnt W w.heap.size 0) => srtAdj W g off pre tl d n cap I w.heap.size 0 ho hn (by omega) hIn hn24 (by omega) hW hC hne)
    have CA2 := Lib.hid (fun (W : World) (hW : SR W g pre tl d) (hC : Cnt W w.heap.size s1) => srtAdj W g off pre tl d n cap J w.heap.size s1 ho hn (by omega) hJn hn24 (by omega) hW hC hne)
    have CA3 := Lib.hid (fun (W : World) (hW : SR W g pre tl d) (hC : Cnt W w.heap.size s2) => srtAdj W g off pre tl d n cap K w.heap.size s2 ho hn (by omega) hKn hn24 (by omega) hW hC hne)
    have CM := Lib.hid (fun (W : World) (hW : SR W g pre tl d) (hC : Cnt W w.heap.size s3) => srtMed W g off pre tl d n cap i1 j1 k1 w.heap.size s3 ho hn q1.1 q2.1 q3.1 hn24 (by omega) hW hC hne)
    rw [m1] at CA1
    rw [m2] at CA2
    rw [m3] at CA3
    rw [m4] at CM
    clear m1 m2 m3 m4 q1 q2 q3 q4 h ho hn hL hQ hI hJ hK
    by_cases z0 : SS = 0
    · subst z0
      have HF : Hid (Sort.choosePivot ltN d a b = (MM, Sort.Hint.increasing)) := Lib.hid (by rw [HCP.out]; rfl)
      rw [HF.out]
      go_enter Tryz.func91, Tryz.ntmps91
      go_wp2_with (first
        | (go_at_call 103; have hx_ := K3; clear hx_; refine (CM.out _ (HS.out.keep' K3.out.2) K3.out.1).mono ?_; rintro e w4 ⟨rfl, hc4, hg4, _, _⟩; obtain ⟨cs4, fs4⟩ := hc4.cell; have KK := Lib.hid (below_grown_new (grown_trans K3.out.2 hg4)); have K4 := Lib.hid (And.intro hc4 (grown_trans K3.out.2 hg4)); clear hc4 hg4)
        | (go_at_call 102; have hx_ := K2; clear hx_; refine (CA3.out _ (HS.out.keep' K2.out.2) K2.out.1).mono ?_; rintro e w3 ⟨rfl, hc3, hg3, _, _⟩; have K3 := Lib.hid (And.intro hc3 (grown_trans K2.out.2 hg3)); clear hc3 hg3)
        | (go_at_call 102; have hx_ := K1; clear hx_; refine (CA2.out _ (HS.out.keep' K1.out.2) K1.out.1).mono ?_; rintro e w2 ⟨rfl, hc2, hg2, _, _⟩; have K2 := Lib.hid (And.intro hc2 (grown_trans K1.out.2 hg2)); clear hc2 hg2)
        | (go_at_call 102; refine (CA1.out _ (HS.out.keep' K0.out.2) K0.out.1).mono ?_; rintro e w1 ⟨rfl, hc1, hg1, _, _⟩; have K1 := Lib.hid (And.intro hc1 (grown_trans K0.out.2 hg1)); clear hc1 hg1))
      go_ret2
      exact ⟨rfl, HB.out.trans (KK.out.mono (by simp)), HMN.out⟩
    · by_cases z1 : SS = 12
      · subst z1
        have HF : Hid (Sort.choosePivot ltN d a b = (MM, Sort.Hint.decreasing)) := Lib.hid (by rw [HCP.out]; rfl)
        rw [HF.out]
        go_enter Tryz.func91, Tryz.ntmps91
        go_wp2_with (first
          | (go_at_call 103; have hx_ := K3; clear hx_; refine (CM.out _ (HS.out.keep' K3.out.2) K3.out.1).mono ?_; rintro e w4 ⟨rfl, hc4, hg4, _, _⟩; obtain ⟨cs4, fs4⟩ := hc4.cell; have KK := Lib.hid (below_grown_new (grown_trans K3.out.2 hg4)); have K4 := Lib.hid (And.intro hc4 (grown_trans K3.out.2 hg4)); clear hc4 hg4)
          | (go_at_call 102; have hx_ := K2; clear hx_; refine (CA3.out _ (HS.out.keep' K2.out.2) K2.out.1).mono ?_; rintro e w3 ⟨rfl, hc3, hg3, _, _⟩; have K3 := Lib.hid (And.intro hc3 (grown_trans K2.out.2 hg3)); clear hc3 hg3)
          | (go_at_call 102; have hx_ := K1; clear hx_; refine (CA2.out _ (HS.out.keep' K1.out.2) K1.out.1).mono ?_; rintro e w2 ⟨rfl, hc2, hg2, _, _⟩; have K2 := Lib.hid (And.intro hc2 (grown_trans K1.out.2 hg2)); clear hc2 hg2)
          | (go_at_call 102; refine (CA1.out _ (HS.out.keep' K0.out.2) K0.out.1).mono ?_; rintro e w1 ⟨rfl, hc1, hg1, _, _⟩; have K1 := Lib.hid (And.intro hc1 (grown_trans K0.out.2 hg1)); clear hc1 hg1))
        go_ret2
        exact ⟨rfl, HB.out.trans (KK.out.mono (by simp)), HMN.out⟩
      · have y0 : ((SS : Int) == 0) = false := by simp; omega
        have y1 : ((SS : Int) == 12) = false := by
          have : (SS : Int) ≠ 12 := by omega
          simpa using this
        have HF : Hid (Sort.choosePivot ltN d a b = (MM, Sort.Hint.unknown)) := Lib.hid (by rw [HCP.out, if_neg z0, if_neg z1])
        rw [HF.out]
        go_enter Tryz.func91, Tryz.ntmps91
        go_wp2_with (first
          | (go_at_call 103; have hx_ := K3; clear hx_; refine (CM.out _ (HS.out.keep' K3.out.2) K3.out.1).mono ?_; rintro e w4 ⟨rfl, hc4, hg4, _, _⟩; obtain ⟨cs4, fs4⟩ := hc4.cell; have KK := Lib.hid (below_grown_new (grown_trans K3.out.2 hg4)); have K4 := Lib.hid (And.intro hc4 (grown_trans K3.out.2 hg4)); clear hc4 hg4)
          | (go_at_call 102; have hx_ := K2; clear hx_; refine (CA3.out _ (HS.out.keep' K2.out.2) K2.out.1).mono ?_; rintro e w3 ⟨rfl, hc3, hg3, _, _⟩; have K3 := Lib.hid (And.intro hc3 (grown_trans K2.out.2 hg3)); clear hc3 hg3)
          | (go_at_call 102; have hx_ := K1; clear hx_; refine (CA2.out _ (HS.out.keep' K1.out.2) K1.out.1).mono ?_; rintro e w2 ⟨rfl, hc2, hg2, _, _⟩; have K2 := Lib.hid (And.intro hc2 (grown_trans K1.out.2 hg2)); clear hc2 hg2)
          | (go_at_call 102; refine (CA1.out _ (HS.out.keep' K0.out.2) K0.out.1).mono ?_; rintro e w1 ⟨rfl, hc1, hg1, _, _⟩; have K1 := Lib.hid (And.intro hc1 (grown_trans K0.out.2 hg1)); clear hc1 hg1))
        go_ret2
        exact ⟨rfl, HB.out.trans (KK.out.mono (by simp)), HMN.out⟩
  · have h50' : ¬ (50 : Int) ≤ (L : Int) := by omega
    obtain ⟨MM, SS, m4⟩ : ∃ m s, Sort.median ltN d I J K 0 = (m, s) := ⟨_, _, rfl⟩
    have HCP : Hid (Sort.choosePivot ltN d a b = (MM, if SS = 0 then Sort.Hint.increasing else if SS = 12 then Sort.Hint.decreasing else Sort.Hint.unknown)) := Lib.hid (by
      unfold Sort.choosePivot
      simp only [← hL, ← hQ, Nat.mul_one, ← hI, ← hJ, ← hK, ge_iff_le, h50, show 8 ≤ L by omega, if_true, if_false, m4])
    have q4 := med_bnd d (show I < n by omega) (show J < n by omega) (show K < n by omega) 0
    rw [m4] at q4
    simp only at q4
    have HMN := Lib.hid q4.1
    have CM := Lib.hid (fun (W : World) (hW : SR W g pre tl d) (hC : Cnt W w.heap.size 0) => srtMed W g off pre tl d n cap I J K w.heap.size 0 ho hn (by omega) (by omega) (by omega) hn24 (by omega) hW hC hne)
    rw [m4] at CM
    clear m4 q4 h ho hn hL hQ hI hJ hK
    by_cases z0 : SS = 0
    · subst z0
      have HF : Hid (Sort.choosePivot ltN d a b = (MM, Sort.Hint.increasing)) := Lib.hid (by rw [HCP.out]; rfl)
      rw [HF.out]
      go_enter Tryz.func91, Tryz.ntmps91
      go_wp2_with (first
        | (go_at_call 103; refine (CM.out _ (HS.out.keep' K0.out.2) K0.out.1).mono ?_; rintro e w4 ⟨rfl, hc4, hg4, _, _⟩; obtain ⟨cs4, fs4⟩ := hc4.cell; have KK := Lib.hid (below_grown_new (grown_trans K0.out.2 hg4)); have K4 := Lib.hid (And.intro hc4 (grown_trans K0.out.2 hg4)); clear hc4 hg4))
      go_ret2
      exact ⟨rfl, HB.out.trans (KK.out.mono (by simp)), HMN.out⟩
    · by_cases z1 : SS = 12
      · subst z1
        have HF : Hid (Sort.choosePivot ltN d a b = (MM, Sort.Hint.decreasing)) := Lib.hid (by rw [HCP.out]; rfl)
        rw [HF.out]
        go_enter Tryz.func91, Tryz.ntmps91
        go_wp2_with (first
          | (go_at_call 103; refine (CM.out _ (HS.out.keep' K0.out.2) K0.out.1).mono ?_; rintro e w4 ⟨rfl, hc4, hg4, _, _⟩; obtain ⟨cs4, fs4⟩ := hc4.cell; have KK := Lib.hid (below_grown_new (grown_trans K0.out.2 hg4)); have K4 := Lib.hid (And.intro hc4 (grown_trans K0.out.2 hg4)); clear hc4 hg4))
        go_ret2
        exact ⟨rfl, HB.out.trans (KK.out.mono (by simp)), HMN.out⟩
      · have y0 : ((SS : Int) == 0) = false := by simp; omega
        have y1 : ((SS : Int) == 12) = false := by
          have : (SS : Int) ≠ 12 := by omega
          simpa using this
        have HF : Hid (Sort.choosePivot ltN d a b = (MM, Sort.Hint.unknown)) := Lib.hid (by rw [HCP.out, if_neg z0, if_neg z1])
        rw [HF.out]
        go_enter Tryz.func91, Tryz.ntmps91
        go_wp2_with (first
          | (go_at_call 103; refine (CM.out _ (HS.out.keep' K0.out.2) K0.out.1).mono ?_; rintro e w4 ⟨rfl, hc4, hg4, _, _⟩; obtain ⟨cs4, fs4⟩ := hc4.cell; have KK := Lib.hid (below_grown_new (grown_trans K0.out.2 hg4)); have K4 := Lib.hid (And.intro hc4 (grown_trans K0.out.2 hg4)); clear hc4 hg4))
        go_ret2
        exact ⟨rfl, HB.out.trans (KK.out.mono (by simp)), HMN.out⟩
end Go.Proofs.YtehdneppleifdaaGreatDoor

namespace Go.Proofs.YtehdneppleifdaaGreatDoor
open Go.RowKit
set_option maxRecDepth 1000000
theorem grown_far {w W : World} {g b j : Nat} {v : Value} (h : w.grownBy W (some g)) (hb : w.heap.size ≤ b) : w.grownBy (W.setCell ⟨b, j, none⟩ v) (some g) :=
  ⟨h.os, h.tape, h.output, by simpa using h.size, fun k hk hne => (Below.heap_setCell W ⟨b, j, none⟩ v k (fun e => by simp at e; omega)).trans (h.block k hk hne)⟩
/-- The register's variable. -/
def Reg (w : World) (rb X : Nat) : Prop := w.heap[rb]? = some (.cells #[.int .u64 ((X : Nat) : Int)] 106 (0, 0))
/-- The state behind r rounds. -/
def brkN (a L M i0 : Nat) (d : Array Nat) : Nat → UInt64 × Array Nat
  | 0 => (UInt64.ofNat L, d)
  | r + 1 => Sort.breakStep a L M (brkN a L M i0 d r) (i0 + r)
theorem brk_all (d : Array Nat) {a b L Q i0 : Nat} (h8 : 8 ≤ L) (hL : L = b - a) (hQ : Q = L / 4) (hi : i0 = a + Q * 2 - 1) : Sort.breakPatterns d a b = (brkN a L (1 <<< Sort.bitsLen L) i0 d 3).2 := by
  subst hL hQ hi
  unfold Sort.breakPatterns
  simp only [ge_iff_le, h8, if_true]
  rfl
/-- One round by its numbers. -/
theorem brk_step {a L M i0 r X : Nat} {d D : Array Nat} (h1 : (brkN a L M i0 d r).1.toNat = X) (h2 : (brkN a L M i0 d r).2 = D) {O : Nat} (hO : O = if L ≤ Sort.xorNextN X &&& (M - 1) then (Sort.xorNextN X &&& (M - 1)) - L else Sort.xorNextN X &&& (M - 1)) :
    (brkN a L M i0 d (r + 1)).1.toNat = Sort.xorNextN X ∧ (brkN a L M i0 d (r + 1)).2 = Sort.swp D (i0 + r) (a + O) := by
  have e : brkN a L M i0 d (r + 1) = Sort.breakStep a L M (brkN a L M i0 d r) (i0 + r) := rfl
  obtain ⟨st, hst⟩ : ∃ st, brkN a L M i0 d r = st := ⟨_, rfl⟩
  rw [e, hst]
  rw [hst] at h1 h2
  subst hO h1 h2
  unfold Sort.breakStep
  simp only [Sort.xorNext_toNat, ge_iff_le, and_self]
set_option maxHeartbeats 8000000 in
theorem srtBrk (w : World) (g off : Nat) (pre tl : List Value) (d : Array Nat) (n cap a b : Nat) (ho : pre.length = off) (hn : n = d.size) (hab : a + 12 < b) (hb : b ≤ n) (hn24 : n ≤ 16777216) (h : SR w g pre tl d) :
    Calls Tryz.prog 90 #[.slice (some ⟨g, off, none⟩) n cap, .int .i64 a, .int .i64 b] w fun e w' => e = .returned (.tuple #[]) ∧ SR w' g pre tl (Sort.breakPatterns d a b) ∧ w.grownBy w' (some g) := by
  obtain ⟨L, hL⟩ : ∃ L, L = b - a := ⟨_, rfl⟩
  obtain ⟨Q, hQ⟩ : ∃ Q, Q = L / 4 := ⟨_, rfl⟩
  obtain ⟨i0, hi0⟩ : ∃ i, i = a + Q * 2 - 1 := ⟨_, rfl⟩
  obtain ⟨M, hM⟩ : ∃ M, M = 1 <<< Sort.bitsLen L := ⟨_, rfl⟩
  have eL : (b : Int) - (a : Int) = (L : Int) := by omega
  have eQ : ((L : Int)).tdiv 4 = (Q : Int) := by rw [Int.tdiv_eq_ediv_of_nonneg (by omega)]; omega
  have eI : (a : Int) + (Q : Int) * 2 = (i0 : Int) + 1 := by omega
  have hL8 : (8 : Int) ≤ (L : Int) := by omega
  have hL24 : L ≤ 16777216 := by omega
  have hQ24 : Q ≤ 16777216 := by omega
  have hi3 : i0 + 2 < n := by omega
  have hM0 : M = 2 ^ Sort.bitsLen L := by rw [hM, Nat.shiftLeft_eq, Nat.one_mul]
  have hM2 : M ≤ 2 * L := by rw [hM0]; exact Sort.two_pow_bitsLen_le (by omega)
  have hM1 : 1 ≤ M := by rw [hM0]; exact Nat.two_pow_pos _
  have HM0 := Lib.hid hM0
  have haL : a + L ≤ n := by omega
  have HRES : Hid (Sort.breakPatterns d a b = (brkN a L M i0 d 3).2) := Lib.hid (by rw [hM]; exact brk_all d (by omega) hL hQ hi0)
  have CPW := Lib.hid (fun (W : World) => Tryz.next_Pow L (by omega) W)
  rw [← hM] at CPW
  have HOF := Lib.hid ho
  have HN := Lib.hid hn.symm
  have HREG0 : Hid (Reg (w.alloc (.cells #[.int .u64 ((L : Nat) : Int)] 106)) w.heap.size L) := Lib.hid (heap_alloc_new w (.cells #[.int .u64 ((L : Nat) : Int)] 106))
  have HS0 : Hid (SR (w.alloc (.cells #[.int .u64 ((L : Nat) : Int)] 106)) g pre tl d) := Lib.hid (keepH (Joins.below_alloc1 w (.cells #[.int .u64 ((L : Nat) : Int)] 106)) h.lt h)
  have HG0 : Hid (w.grownBy (w.alloc (.cells #[.int .u64 ((L : Nat) : Int)] 106)) (some g)) := Lib.hid (World.grownBy_alloc w _ _)
  have hne : g ≠ w.heap.size := Nat.ne_of_lt h.lt
  have HNE := Lib.hid hne
  have HB0 : Hid ((brkN a L M i0 d 0).1.toNat = L ∧ (brkN a L M i0 d 0).2 = d) := Lib.hid ⟨by
    show (UInt64.ofNat L).toNat = L
    rw [UInt64.toNat_ofNat']; omega, rfl⟩
  clear hL hQ hi0 hM hM0 h hn ho hne
  go_enter Tryz.func90, Tryz.ntmps90
  go_wp2_with (go_at_call 100; refine (CPW.out _).mono ?_; rintro e w1 ⟨rfl, rfl⟩)
  go_loopw [9] (fun i wr => ∃ (r X : Nat) (D : Array Nat), i = .int .i64 ((i0 : Int) + (r : Int)) ∧ r ≤ 3 ∧ X < 18446744073709551616 ∧ SR wr g pre tl D ∧ D.size = n ∧ Reg wr w.heap.size X ∧ Hid ((brkN a L M i0 d r).1.toNat = X ∧ (brkN a L M i0 d r).2 = D) ∧ w.grownBy wr (some g)) (fun i _ => (i0 + 3 - (intOf i).toNat))
  case atStart => exact ⟨0, L, d, by go_num, by omega, by omega, HS0.out, HN.out, HREG0.out, HB0, HG0.out⟩
  case round =>
    obtain ⟨r, X, D, rfl, hr, hX, hsr, hsz, hreg, HB, hgr⟩ := hrel
    have HSR := Lib.hid hsr
    have HSZ := Lib.hid hsz
    have HRG := Lib.hid hreg
    have HGR := Lib.hid hgr
    clear hsr hsz hreg hgr
    by_cases hr3 : r < 3
    · have hle : (i0 : Int) + (r : Int) ≤ (i0 : Int) + 1 + 1 := by omega
      obtain ⟨p, hp⟩ : ∃ p, p = i0 + r := ⟨_, rfl⟩
      have ep : (i0 : Int) + (r : Int) = (p : Int) := by omega
      have hpn : p < n := by omega
      have hp1 : (p : Int) ≤ (i0 : Int) + 1 + 1 := by omega
      obtain ⟨Y, hY⟩ : ∃ Y, Sort.xorNextN X = Y := ⟨_, rfl⟩
      have hY64 : Y < 18446744073709551616 := by rw [← hY]; exact Sort.xorNextN_lt X hX
      obtain ⟨O1, hO1⟩ : ∃ O, Y &&& (M - 1) = O := ⟨_, rfl⟩
      have hO1l : O1 < M := by
        have : Y &&& (M - 1) ≤ M - 1 := Nat.and_le_right
        omega
      have hand : bits .and .u64 (Y : Int) ((M : Int) - 1) = (O1 : Int) := by
        rw [show ((M : Int) - 1) = ((M - 1 : Nat) : Int) by omega, bits_and_u64_nat Y (M - 1) hY64 (by omega), hO1]
      obtain ⟨O, hO⟩ : ∃ O, O = if L ≤ O1 then O1 - L else O1 := ⟨_, rfl⟩
      have hOl : O < L := by rw [hO]; split <;> omega
      obtain ⟨q, hq⟩ : ∃ q, q = a + O := ⟨_, rfl⟩
      have eq' : (a : Int) + (O : Int) = (q : Int) := by omega
      have hqn : q < n := by omega
      have wq : IntKind.i64.wrap (q : Int) = (q : Int) := by rw [IntKind.wrap_i64]; omega
      have HB2 : Hid ((brkN a L M i0 d (r + 1)).1.toNat = Y ∧ (brkN a L M i0 d (r + 1)).2 = Sort.swp D p q) := Lib.hid (by
        have h1 := brk_step (O := O) HB.out.1 HB.out.2 (by rw [hY, hO1]; exact hO)
        rw [hY] at h1
        rw [hp, hq]; exact h1)
      obtain ⟨cs, fs⟩ : wr.cell? ⟨w.heap.size, 0, none⟩ = some (.int .u64 ((X : Nat) : Int)) ∧ wr.frozen? ⟨w.heap.size, 0, none⟩ = false := ⟨by simp [World.cell?, show wr.heap[w.heap.size]? = _ from HRG.out], by simp [World.frozen?, show wr.heap[w.heap.size]? = _ from HRG.out]⟩
      have CX := Lib.hid (Tryz.xor_Next w.heap.size 0 X hX wr cs fs)
      rw [hY] at CX
      have CXR : Hid (Calls Tryz.prog 101 #[.pointer (some ⟨w.heap.size, 0, none⟩)] wr fun e w' => e = .returned (.int .u64 (Y : Nat)) ∧ SR w' g pre tl D ∧ Reg w' w.heap.size Y ∧ w.grownBy w' (some g)) := Lib.hid (CX.out.mono fun e w' h => by
        obtain ⟨h1, h2⟩ := h
        subst h2
        exact ⟨h1, (Below.heap_setCell wr ⟨w.heap.size, 0, none⟩ _ g (fun e => HNE.out e)).trans HSR.out, by
          show ((wr.setCell ⟨w.heap.size, 0, none⟩ (.int .u64 ((Y : Nat) : Int)))).heap[w.heap.size]? = _
          rw [heap_setCell_same wr w.heap.size 0 _ _ _ HRG.out]; rfl, grown_drew (grown_far HGR.out (Nat.le_refl _)) _⟩)
      clear hY hO1 cs fs hp hq HB
      obtain ⟨G, hG⟩ : ∃ G : Nat → Nat, ∀ t, G t = D[t]! := ⟨fun t => D[t]!, fun _ => rfl⟩
      have HG := Lib.hid hG
      have HCW : Hid (∀ W : World, SR W g pre tl D → ∀ t, t < n → W.cell? ⟨g, off + t, none⟩ = some (.int .u64 ((G t : Nat) : Int))) := Lib.hid (fun W hW t ht => by rw [hG]; exact hW.fam HOF.out (by rw [HSZ.out]; exact ht))
      have HFW : Hid (∀ W : World, SR W g pre tl D → ∀ t, t < n → W.frozen? ⟨g, off + t, none⟩ = false) := Lib.hid (fun W hW t _ => hW.frozen _)
      clear hG
      by_cases hLO : L ≤ O1
      · have eO : (O1 : Int) - (L : Int) = (O : Int) := by rw [hO, if_pos hLO]; omega
        have hLO' : (L : Int) ≤ (O1 : Int) := by omega
        clear hO
        by_cases hpq : p = q
        · subst hpq
          go_wp2_with (go_at_call 101; refine CXR.out.mono ?_; rintro e w2 ⟨rfl, hs2, hr2, hg2⟩; have HS2 := Lib.hid hs2; have HR2 := Lib.hid hr2; have HG2 := Lib.hid hg2; have hcw := HCW.out w2 hs2; have hfw := HFW.out w2 hs2; clear hs2 hr2 hg2)
          go_region
          all_goals go_wp2
          go_roundw
          case rel => exact ⟨r + 1, Y, Sort.swp D p p, by go_num, by omega, hY64, HSR2 HS2.out _ HG.out (by rw [HSZ.out]; exact hpn) (by rw [HSZ.out]; exact hqn) HOF.out, by rw [swp_size]; exact HSZ.out, (Below.heap_setCell _ ⟨g, _, none⟩ _ w.heap.size (fun e => HNE.out e.symm)).trans ((Below.heap_setCell _ ⟨g, _, none⟩ _ w.heap.size (fun e => HNE.out e.symm)).trans HR2.out), HB2, grown_swp (grown_drew HG2.out _)⟩
          case measure => first | (simp [intOf]; done) | (simp [intOf]; omega) | omega
        · have hpq' : ¬ q = p := fun e => hpq e.symm
          go_wp2_with (go_at_call 101; refine CXR.out.mono ?_; rintro e w2 ⟨rfl, hs2, hr2, hg2⟩; have HS2 := Lib.hid hs2; have HR2 := Lib.hid hr2; have HG2 := Lib.hid hg2; have hcw := HCW.out w2 hs2; have hfw := HFW.out w2 hs2; clear hs2 hr2 hg2)
          go_region
          all_goals go_wp2
          go_roundw
          case rel => exact ⟨r + 1, Y, Sort.swp D p q, by go_num, by omega, hY64, HSR2 HS2.out _ HG.out (by rw [HSZ.out]; exact hpn) (by rw [HSZ.out]; exact hqn) HOF.out, by rw [swp_size]; exact HSZ.out, (Below.heap_setCell _ ⟨g, _, none⟩ _ w.heap.size (fun e => HNE.out e.symm)).trans ((Below.heap_setCell _ ⟨g, _, none⟩ _ w.heap.size (fun e => HNE.out e.symm)).trans HR2.out), HB2, grown_swp (grown_drew HG2.out _)⟩
          case measure => first | (simp [intOf]; done) | (simp [intOf]; omega) | omega
      · have hLO' : ¬ (L : Int) ≤ (O1 : Int) := by omega
        obtain rfl : O = O1 := by rw [hO, if_neg hLO]
        clear hO
        by_cases hpq : p = q
        · subst hpq
          go_wp2_with (go_at_call 101; refine CXR.out.mono ?_; rintro e w2 ⟨rfl, hs2, hr2, hg2⟩; have HS2 := Lib.hid hs2; have HR2 := Lib.hid hr2; have HG2 := Lib.hid hg2; have hcw := HCW.out w2 hs2; have hfw := HFW.out w2 hs2; clear hs2 hr2 hg2)
          go_region
          all_goals go_wp2
          go_roundw
          case rel => exact ⟨r + 1, Y, Sort.swp D p p, by go_num, by omega, hY64, HSR2 HS2.out _ HG.out (by rw [HSZ.out]; exact hpn) (by rw [HSZ.out]; exact hqn) HOF.out, by rw [swp_size]; exact HSZ.out, (Below.heap_setCell _ ⟨g, _, none⟩ _ w.heap.size (fun e => HNE.out e.symm)).trans ((Below.heap_setCell _ ⟨g, _, none⟩ _ w.heap.size (fun e => HNE.out e.symm)).trans HR2.out), HB2, grown_swp (grown_drew HG2.out _)⟩
          case measure => first | (simp [intOf]; done) | (simp [intOf]; omega) | omega
        · have hpq' : ¬ q = p := fun e => hpq e.symm
          go_wp2_with (go_at_call 101; refine CXR.out.mono ?_; rintro e w2 ⟨rfl, hs2, hr2, hg2⟩; have HS2 := Lib.hid hs2; have HR2 := Lib.hid hr2; have HG2 := Lib.hid hg2; have hcw := HCW.out w2 hs2; have hfw := HFW.out w2 hs2; clear hs2 hr2 hg2)
          go_region
          all_goals go_wp2
          go_roundw
          case rel => exact ⟨r + 1, Y, Sort.swp D p q, by go_num, by omega, hY64, HSR2 HS2.out _ HG.out (by rw [HSZ.out]; exact hpn) (by rw [HSZ.out]; exact hqn) HOF.out, by rw [swp_size]; exact HSZ.out, (Below.heap_setCell _ ⟨g, _, none⟩ _ w.heap.size (fun e => HNE.out e.symm)).trans ((Below.heap_setCell _ ⟨g, _, none⟩ _ w.heap.size (fun e => HNE.out e.symm)).trans HR2.out), HB2, grown_swp (grown_drew HG2.out _)⟩
          case measure => first | (simp [intOf]; done) | (simp [intOf]; omega) | omega
    · obtain rfl : r = 3 := by omega
      have hle : ¬ ((i0 : Int) + 3 ≤ (i0 : Int) + 1 + 1) := by omega
      have HD : Hid (D = Sort.breakPatterns d a b) := Lib.hid (by rw [HRES.out]; exact HB.out.2.symm)
      go_wp2
      go_end0
      exact ⟨rfl, by rw [← HD.out]; exact HSR.out, HGR.out⟩
end Go.Proofs.YtehdneppleifdaaGreatDoor
