/- Merged: Srt4 Srt5. -/
import Derived.Test.YtehdneppleifdaaGreatDoorSrt3
namespace Go.Proofs.YtehdneppleifdaaGreatDoor
open Go.RowKit
set_option maxRecDepth 1000000
theorem sift_size' (hi f r : Nat) (D : Array Nat) : (Sort.siftDown ltN hi f r D).size = D.size := sift_size hi f _ r D (Nat.le_refl _)
set_option maxHeartbeats 4000000 in
theorem srtHeap (w : World) (g off : Nat) (pre tl : List Value) (d : Array Nat) (n cap a b : Nat) (ho : pre.length = off) (hn : n = d.size) (hab : a ≤ b) (hb : b ≤ n) (hn24 : n ≤ 16777216) (h : SR w g pre tl d) :
    Calls Tryz.prog 89 #[.slice (some ⟨g, off, none⟩) n cap, .int .i64 a, .int .i64 b] w fun e w' => e = .returned (.tuple #[]) ∧ SR w' g pre tl (Sort.heapSort ltN d a b) ∧ w.grownBy w' (some g) := by
  have HR := Lib.hid h
  have HN := Lib.hid hn.symm
  have HOF := Lib.hid ho
  obtain ⟨H, hH⟩ : ∃ H, H = b - a := ⟨_, rfl⟩
  have eh : (b : Int) - (a : Int) = (H : Int) := by omega
  obtain ⟨K, hK⟩ : ∃ K, K = (H - 1) / 2 := ⟨_, rfl⟩
  have ek : ((H : Int) - 1).tdiv 2 = (K : Int) := by
    by_cases h0 : H = 0
    · subst h0; subst hK; rfl
    · rw [Int.tdiv_eq_ediv_of_nonneg (by omega)]; omega
  have HT : Hid (Sort.heapSort ltN d a b = Sort.heapPop ltN a H (Sort.heapBuild ltN H a (K + 1) d)) := Lib.hid (by
    unfold Sort.heapSort
    rw [← hH, ← hK])
  have hHn : a + H ≤ n := by omega
  have hKH : K ≤ H := by omega
  clear h hn ho hH hK
  go_enter Tryz.func89, Tryz.ntmps89
  go_wp2
  go_loopw [9] (fun i wr => ∃ (k : Nat) (v : Int) (D : Array Nat), i = .int .i64 v ∧ v = (k : Int) - 1 ∧ k ≤ K + 1 ∧ SR wr g pre tl D ∧ D.size = n ∧ Hid (Sort.heapBuild ltN H a k D = Sort.heapBuild ltN H a (K + 1) d) ∧ w.grownBy wr (some g)) (fun i _ => (intOf i + 1).toNat)
  case atStart => exact ⟨K + 1, (K : Int), d, rfl, by omega, Nat.le_refl _, HR.out, HN.out, Lib.hid rfl, World.grownBy.refl _ _⟩
  case round =>
    obtain ⟨k, v, D, rfl, hv, hk, hsr, hsz, HO, hgr⟩ := hrel
    have HSR := Lib.hid hsr
    have HSZ := Lib.hid hsz
    have HGR := Lib.hid hgr
    clear hsr hsz hgr
    by_cases h0 : 0 ≤ v
    · obtain ⟨u, rfl⟩ : ∃ u : Nat, v = (u : Int) := ⟨v.toNat, by omega⟩
      obtain rfl : k = u + 1 := by omega
      have HO2 : Hid (Sort.heapBuild ltN H a u (Sort.siftDown ltN H a u D) = Sort.heapBuild ltN H a (K + 1) d) := HO
      have CS := Lib.hid (fun (W : World) (hW : SR W g pre tl D) => srtSift W g off pre tl D n cap u H a HOF.out HSZ.out.symm hHn hn24 (by omega) hW)
      clear HO hv
      go_wp2_with (go_at_call 99; refine (CS.out _ HSR.out).mono ?_; rintro e w1 ⟨rfl, hs1, hg1⟩)
      go_roundw
      case rel => exact ⟨u, (u : Int) - 1, Sort.siftDown ltN H a u D, by go_num, rfl, by omega, hs1, by rw [sift_size']; exact HSZ.out, HO2, grown_trans HGR.out hg1⟩
      case measure => first | (simp [intOf]; done) | (simp [intOf]; omega) | omega
    · obtain rfl : k = 0 := by omega
      have HD : Hid (D = Sort.heapBuild ltN H a (K + 1) d) := HO
      have HT2 : Hid (Sort.heapSort ltN d a b = Sort.heapPop ltN a H D) := Lib.hid (by rw [HD.out]; exact HT.out)
      obtain ⟨wa, rfl⟩ : ∃ W, W = wr := ⟨wr, rfl⟩
      clear HO HD hv
      go_wp2
      go_loopw [10] (fun i wr => ∃ (k : Nat) (v : Int) (D2 : Array Nat), i = .int .i64 v ∧ v = (k : Int) - 1 ∧ k ≤ H ∧ SR wr g pre tl D2 ∧ D2.size = n ∧ Hid (Sort.heapPop ltN a k D2 = Sort.heapSort ltN d a b) ∧ w.grownBy wr (some g)) (fun i _ => (intOf i + 1).toNat)
      case atStart => exact ⟨H, (H : Int) - 1, D, by go_num, rfl, Nat.le_refl _, HSR.out, HSZ.out, Lib.hid HT2.out.symm, HGR.out⟩
      case round =>
        obtain ⟨k, v, D2, rfl, hv, hk, hsr, hsz, HO, hgr⟩ := hrel
        have HSRb := Lib.hid hsr
        have HSRZ := Lib.hid hsz
        have HGR2 := Lib.hid hgr
        clear hsr hsz hgr
        by_cases h0 : 0 ≤ v
        · obtain ⟨u, rfl⟩ : ∃ u : Nat, v = (u : Int) := ⟨v.toNat, by omega⟩
          obtain rfl : k = u + 1 := by omega
          obtain ⟨p, hp⟩ : ∃ p, p = a + u := ⟨_, rfl⟩
          have ep : (a : Int) + (u : Int) = (p : Int) := by omega
          have hpn : p < n := by omega
          have han : a < n := by omega
          have wp : IntKind.i64.wrap (p : Int) = (p : Int) := by rw [IntKind.wrap_i64]; omega
          have HO2 : Hid (Sort.heapPop ltN a u (Sort.siftDown ltN u a 0 (Sort.swp D2 a p)) = Sort.heapSort ltN d a b) := Lib.hid (by rw [hp]; exact HO.out)
          obtain ⟨G, hG⟩ : ∃ G : Nat → Nat, ∀ t, G t = D2[t]! := ⟨fun t => D2[t]!, fun _ => rfl⟩
          have hcw : ∀ t, t < n → wr.cell? ⟨g, off + t, none⟩ = some (.int .u64 ((G t : Nat) : Int)) := fun t ht => by rw [hG]; exact HSRb.out.fam HOF.out (by rw [HSRZ.out]; exact ht)
          have hfw : ∀ t, t < n → wr.frozen? ⟨g, off + t, none⟩ = false := fun t _ => HSRb.out.frozen _
          have HG := Lib.hid hG
          clear hG
          have CS := Lib.hid (fun (W : World) (hW : SR W g pre tl (Sort.swp D2 a p)) => srtSift W g off pre tl (Sort.swp D2 a p) n cap 0 u a HOF.out (by rw [swp_size]; exact HSRZ.out.symm) (by omega) hn24 (by omega) hW)
          clear HO hv hp
          have HZ := Lib.hid (fun (q : Nat) => HSR2 HSRb.out q HG.out (i := a) (j := p) (by rw [HSRZ.out]; exact han) (by rw [HSRZ.out]; exact hpn) HOF.out)
          by_cases hpa : p = a
          · subst hpa
            obtain rfl : u = 0 := by omega
            go_wp2
            go_region
            all_goals go_wp2_with (go_at_call 99; refine (CS.out _ (HZ.out _)).mono ?_; rintro e w1 ⟨rfl, hs1, hg1⟩)
            go_roundw
            case rel => exact ⟨0, -1, Sort.siftDown ltN 0 p 0 (Sort.swp D2 p p), by go_num, rfl, by omega, hs1, by rw [sift_size', swp_size]; exact HSRZ.out, HO2, grown_trans (grown_swp (grown_drew HGR2.out _)) hg1⟩
            case measure => first | (simp [intOf]; done) | (simp [intOf]; omega) | omega
          · have hpa' : a < p := by omega
            go_wp2
            go_region
            all_goals go_wp2_with (go_at_call 99; refine (CS.out _ (HZ.out _)).mono ?_; rintro e w1 ⟨rfl, hs1, hg1⟩)
            go_roundw
            case rel => exact ⟨u, (u : Int) - 1, Sort.siftDown ltN u a 0 (Sort.swp D2 a p), by go_num, rfl, by omega, hs1, by rw [sift_size', swp_size]; exact HSRZ.out, HO2, grown_trans (grown_swp (grown_drew HGR2.out _)) hg1⟩
            case measure => first | (simp [intOf]; done) | (simp [intOf]; omega) | omega
        · obtain rfl : k = 0 := by omega
          have HD : Hid (D2 = Sort.heapSort ltN d a b) := HO
          clear HO hv
          go_wp2
          go_end0
          exact ⟨rfl, by rw [← HD.out]; exact HSRb.out, HGR2.out⟩
end Go.Proofs.YtehdneppleifdaaGreatDoor

namespace Go.Proofs.YtehdneppleifdaaGreatDoor
open Go.RowKit
set_option maxRecDepth 1000000
set_option maxHeartbeats 4000000 in
theorem srtRev (w : World) (g off : Nat) (pre tl : List Value) (d : Array Nat) (n cap a b : Nat) (ho : pre.length = off) (hn : n = d.size) (hab : a < b) (hb : b ≤ n) (hn24 : n ≤ 16777216) (h : SR w g pre tl d) :
    Calls Tryz.prog 92 #[.slice (some ⟨g, off, none⟩) n cap, .int .i64 a, .int .i64 b] w fun e w' => e = .returned (.tuple #[]) ∧ SR w' g pre tl (Sort.reverseRange d a b) ∧ w.grownBy w' (some g) := by
  have HR := Lib.hid h
  have HN := Lib.hid hn.symm
  have HOF := Lib.hid ho
  obtain ⟨j0, hj0⟩ : ∃ j, j = b - 1 := ⟨_, rfl⟩
  have ej : (b : Int) - 1 = (j0 : Int) := by omega
  have hj0n : j0 < n := by omega
  have HT : Hid (Sort.reverseRange d a b = Sort.reverseLoop a j0 d) := Lib.hid (by unfold Sort.reverseRange; rw [hj0])
  clear h hn ho hj0
  go_enter Tryz.func92, Tryz.ntmps92
  go_wp2
  go_loopw [6, 7] (fun i j wr => ∃ (p q : Nat) (D : Array Nat), i = .int .i64 p ∧ j = .int .i64 q ∧ q < n ∧ p ≤ n ∧ SR wr g pre tl D ∧ D.size = n ∧ Hid (Sort.reverseLoop p q D = Sort.reverseRange d a b) ∧ w.grownBy wr (some g)) (fun _ j _ => (intOf j).toNat)
  case atStart => exact ⟨a, j0, d, rfl, by first | rfl | (congr 1), hj0n, by omega, HR.out, HN.out, Lib.hid HT.out.symm, World.grownBy.refl _ _⟩
  case round =>
    obtain ⟨p, q, D, rfl, rfl, hq, hp, hsr, hsz, HO, hgr⟩ := hrel
    have HSRb := Lib.hid hsr
    have HSRZ := Lib.hid hsz
    have HGR := Lib.hid hgr
    clear hsr hsz hgr
    by_cases hpq : p < q
    · have hpq' : (p : Int) < (q : Int) := by omega
      obtain ⟨t, rfl⟩ : ∃ t, q = t + 1 := ⟨q - 1, by omega⟩
      have HO2 : Hid (Sort.reverseLoop (p + 1) t (Sort.swp D p (t + 1)) = Sort.reverseRange d a b) := Lib.hid (by
        rw [← HO.out]
        conv => rhs; unfold Sort.reverseLoop
        rw [if_pos hpq]; rfl)
      obtain ⟨G, hG⟩ : ∃ G : Nat → Nat, ∀ t, G t = D[t]! := ⟨fun t => D[t]!, fun _ => rfl⟩
      have hcw : ∀ t, t < n → wr.cell? ⟨g, off + t, none⟩ = some (.int .u64 ((G t : Nat) : Int)) := fun t ht => by rw [hG]; exact HSRb.out.fam HOF.out (by rw [HSRZ.out]; exact ht)
      have hfw : ∀ t, t < n → wr.frozen? ⟨g, off + t, none⟩ = false := fun t _ => HSRb.out.frozen _
      have HG := Lib.hid hG
      clear hG
      have HZ := Lib.hid (fun (q : Nat) => HSR2 HSRb.out q HG.out (i := p) (j := t + 1) (by rw [HSRZ.out]; omega) (by rw [HSRZ.out]; omega) HOF.out)
      clear HO
      go_wp2
      go_region
      all_goals go_wp2
      go_roundw
      case rel => exact ⟨p + 1, t, Sort.swp D p (t + 1), by go_num, by go_num, by omega, by omega, HZ.out _, by rw [swp_size]; exact HSRZ.out, HO2, grown_swp (grown_drew HGR.out _)⟩
      case measure => first | (simp [intOf]; done) | (simp [intOf]; omega) | omega
    · have hpq' : ¬ (p : Int) < (q : Int) := by omega
      have HD : Hid (D = Sort.reverseRange d a b) := Lib.hid (by
        rw [← HO.out]
        unfold Sort.reverseLoop
        rw [if_neg hpq])
      go_wp2
      go_end0
      exact ⟨rfl, by rw [← HD.out]; exact HSRb.out, HGR.out⟩
/-- A variable of the call's own that counts. -/
def Cnt (w : World) (sb s : Nat) : Prop := w.heap[sb]? = some (.cells #[.int .i64 ((s : Nat) : Int)] 3 (0, 0))
theorem Cnt.cell {w : World} {sb s : Nat} (h : Cnt w sb s) : w.cell? ⟨sb, 0, none⟩ = some (.int .i64 ((s : Nat) : Int)) ∧ w.frozen? ⟨sb, 0, none⟩ = false :=
  ⟨by simp [World.cell?, show w.heap[sb]? = _ from h], by simp [World.frozen?, show w.heap[sb]? = _ from h]⟩
theorem Cnt.set {w : World} {sb s : Nat} (h : Cnt w sb s) (t : Nat) : Cnt (w.setCell ⟨sb, 0, none⟩ (.int .i64 ((t : Nat) : Int))) sb t := by
  unfold Cnt at h ⊢
  rw [heap_setCell_same w sb 0 _ _ _ h]; rfl
theorem SR.lt {w : World} {g : Nat} {pre tl : List Value} {d : Array Nat} (h : SR w g pre tl d) : g < w.heap.size := (Array.getElem?_eq_some_iff.1 h).1
theorem SR.keep {w w' : World} {g sb : Nat} {pre tl : List Value} {d : Array Nat} (h : SR w g pre tl d) (hg : w.grownBy w' (some sb)) (hne : g ≠ sb) : SR w' g pre tl d := (hg.block g h.lt (by simpa using hne)).trans h
set_option maxHeartbeats 4000000 in
theorem srtOrd (w : World) (g off : Nat) (pre tl : List Value) (d : Array Nat) (n cap a b sb s : Nat) (ho : pre.length = off) (hn : n = d.size) (ha : a < n) (hb : b < n) (_hn24 : n ≤ 16777216) (hs : s ≤ 1000) (h : SR w g pre tl d) (hc : Cnt w sb s) (_hne : g ≠ sb) :
    Calls Tryz.prog 105 #[.slice (some ⟨g, off, none⟩) n cap, .int .i64 a, .int .i64 b, .pointer (some ⟨sb, 0, none⟩)] w fun e w' => e = .returned (.tuple #[.int .i64 (Sort.order2 ltN d a b s).1, .int .i64 (Sort.order2 ltN d a b s).2.1]) ∧ Cnt w' sb (Sort.order2 ltN d a b s).2.2 ∧ w.grownBy w' (some sb) := by
  have HSRb := Lib.hid h
  have HSRZ := Lib.hid hn.symm
  have HOF := Lib.hid ho
  have HC := Lib.hid hc
  obtain ⟨cs, fs⟩ := hc.cell
  clear h hn ho hc
  obtain ⟨G, hG⟩ : ∃ G : Nat → Nat, ∀ t, G t = d[t]! := ⟨fun t => d[t]!, fun _ => rfl⟩
  have hcw : ∀ t, t < n → w.cell? ⟨g, off + t, none⟩ = some (.int .u64 ((G t : Nat) : Int)) := fun t ht => by rw [hG]; exact HSRb.out.fam HOF.out (by rw [HSRZ.out]; exact ht)
  have hfw : ∀ t, t < n → w.frozen? ⟨g, off + t, none⟩ = false := fun t _ => HSRb.out.frozen _
  have HG := Lib.hid hG
  clear hG
  cases hl : ltN (G b) (G a) with
  | true =>
    have HE : Hid (Sort.order2 ltN d a b s = (b, a, s + 1)) := Lib.hid (by unfold Sort.order2; rw [← HG.out, ← HG.out, hl, if_pos rfl])
    rw [HE.out]
    have hcs : ∀ q, (w.drewN q).cell? ⟨sb, 0, none⟩ = some (.int .i64 ((s : Nat) : Int)) := fun _ => cs
    go_enter Tryz.func105, Tryz.ntmps105
    go_wp2
    go_quiet (first | (go_at_call 94; refine Calls.quiet_of_same (iLt _ _ _)))
    have cs2 : (w.drewN nq).cell? ⟨sb, 0, none⟩ = some (.int .i64 ((s : Nat) : Int)) := cs
    have fs2 : (w.drewN nq).frozen? ⟨sb, 0, none⟩ = false := fs
    have HC2 : Hid (Cnt (w.drewN nq) sb s) := HC
    have HGW : Hid (w.grownBy (w.drewN nq) (some sb)) := Lib.hid (grown_drew (World.grownBy.refl _ _) _)
    clear hcw hfw hcs cs fs
    generalize w.drewN nq = w2 at *
    rw [hl]
    go_wp2
    go_ret2
    exact ⟨rfl, HC2.out.set _, grownG_set HGW.out _ _⟩
  | false =>
    have HE : Hid (Sort.order2 ltN d a b s = (a, b, s)) := Lib.hid (by unfold Sort.order2; rw [← HG.out, ← HG.out, hl, if_neg (by simp)])
    rw [HE.out]
    go_enter Tryz.func105, Tryz.ntmps105
    go_wp2
    go_quiet (first | (go_at_call 94; refine Calls.quiet_of_same (iLt _ _ _)))
    rw [hl]
    go_wp2
    go_ret2
    exact ⟨rfl, HC.out, grown_drew (World.grownBy.refl _ _) _⟩
set_option maxHeartbeats 4000000 in
theorem srtMed (w : World) (g off : Nat) (pre tl : List Value) (d : Array Nat) (n cap a b c sb s : Nat) (ho : pre.length = off) (hn : n = d.size) (ha : a < n) (hb : b < n) (hcn : c < n) (hn24 : n ≤ 16777216) (hs : s ≤ 900) (h : SR w g pre tl d) (hc : Cnt w sb s) (hne : g ≠ sb) :
    Calls Tryz.prog 103 #[.slice (some ⟨g, off, none⟩) n cap, .int .i64 a, .int .i64 b, .int .i64 c, .pointer (some ⟨sb, 0, none⟩)] w fun e w' => e = .returned (.int .i64 (Sort.median ltN d a b c s).1) ∧ Cnt w' sb (Sort.median ltN d a b c s).2 ∧ w.grownBy w' (some sb) ∧ (Sort.median ltN d a b c s).1 < n ∧ (Sort.median ltN d a b c s).2 ≤ s + 3 := by
  have hO : ∀ (x y u : Nat), x < n → y < n → (Sort.order2 ltN d x y u).1 < n ∧ (Sort.order2 ltN d x y u).2.1 < n ∧ (Sort.order2 ltN d x y u).2.2 ≤ u + 1 := fun x y u hx hy => by
    unfold Sort.order2
    split
    · exact ⟨hy, hx, Nat.le_refl _⟩
    · exact ⟨hx, hy, Nat.le_succ _⟩
  obtain ⟨a1, b1, s1, h1⟩ : ∃ a1 b1 s1, Sort.order2 ltN d a b s = (a1, b1, s1) := ⟨_, _, _, rfl⟩
  have q1 := hO a b s ha hb
  rw [h1] at q1
  obtain ⟨b2, c2, s2, h2⟩ : ∃ b2 c2 s2, Sort.order2 ltN d b1 c s1 = (b2, c2, s2) := ⟨_, _, _, rfl⟩
  have q2 := hO b1 c s1 q1.2.1 hcn
  rw [h2] at q2
  obtain ⟨a3, b3, s3, h3⟩ : ∃ a3 b3 s3, Sort.order2 ltN d a1 b2 s2 = (a3, b3, s3) := ⟨_, _, _, rfl⟩
  have q3 := hO a1 b2 s2 q1.1 q2.1
  rw [h3] at q3
  have HM : Hid (Sort.median ltN d a b c s = (b3, s3)) := Lib.hid (by
    unfold Sort.median
    simp only [h1, h2, h3])
  rw [HM.out]
  have C1 := Lib.hid (srtOrd w g off pre tl d n cap a b sb s ho hn ha hb hn24 (by omega) h hc hne)
  have C2 := Lib.hid (fun (W : World) (hW : SR W g pre tl d) (hC : Cnt W sb s1) => srtOrd W g off pre tl d n cap b1 c sb s1 ho hn q1.2.1 hcn hn24 (by have := q1.2.2; simp only at this; omega) hW hC hne)
  have C3 := Lib.hid (fun (W : World) (hW : SR W g pre tl d) (hC : Cnt W sb s2) => srtOrd W g off pre tl d n cap a1 b2 sb s2 ho hn q1.1 q2.1 hn24 (by have := q1.2.2; have := q2.2.2; simp only at *; omega) hW hC hne)
  rw [h1] at C1
  rw [h2] at C2
  rw [h3] at C3
  have HSR0 := Lib.hid h
  have HQ : Hid (b3 < n ∧ s3 ≤ s + 3) := Lib.hid (by have := q1.2.2; have := q2.2.2; have := q3.2.2; have := q3.2.1; simp only at *; omega)
  clear h1 h2 h3 q1 q2 q3 h hc hO ho hn
  go_enter Tryz.func103, Tryz.ntmps103
  go_wp2_with (first
    | (go_at_call 105; have hx_ := K2; clear hx_; refine (C3.out _ (HSR0.out.keep K2.out.2 hne) K2.out.1).mono ?_; rintro e w3 ⟨rfl, hc3, hg3⟩; have K3 := Lib.hid (And.intro hc3 (grown_trans K2.out.2 hg3)); clear hc3 hg3)
    | (go_at_call 105; have hx_ := K1; clear hx_; refine (C2.out _ (HSR0.out.keep K1.out.2 hne) K1.out.1).mono ?_; rintro e w2 ⟨rfl, hc2, hg2⟩; have K2 := Lib.hid (And.intro hc2 (grown_trans K1.out.2 hg2)); clear hc2 hg2)
    | (go_at_call 105; refine C1.out.mono ?_; rintro e w1 ⟨rfl, hc1, hg1⟩; have K1 := Lib.hid (And.intro hc1 hg1); clear hc1 hg1))
  go_ret
  exact ⟨rfl, K3.out.1, K3.out.2, HQ.out.1, HQ.out.2⟩
set_option maxHeartbeats 4000000 in
theorem srtAdj (w : World) (g off : Nat) (pre tl : List Value) (d : Array Nat) (n cap a sb s : Nat) (ho : pre.length = off) (hn : n = d.size) (ha0 : 1 ≤ a) (ha : a + 1 < n) (hn24 : n ≤ 16777216) (hs : s ≤ 900) (h : SR w g pre tl d) (hc : Cnt w sb s) (hne : g ≠ sb) :
    Calls Tryz.prog 102 #[.slice (some ⟨g, off, none⟩) n cap, .int .i64 a, .pointer (some ⟨sb, 0, none⟩)] w fun e w' => e = .returned (.int .i64 (Sort.medianAdjacent ltN d a s).1) ∧ Cnt w' sb (Sort.medianAdjacent ltN d a s).2 ∧ w.grownBy w' (some sb) ∧ (Sort.medianAdjacent ltN d a s).1 < n ∧ (Sort.medianAdjacent ltN d a s).2 ≤ s + 3 := by
  obtain ⟨t, rfl⟩ : ∃ t, a = t + 1 := ⟨a - 1, by omega⟩
  have C1 := Lib.hid (srtMed w g off pre tl d n cap t (t + 1) (t + 1 + 1) sb s ho hn (by omega) (by omega) ha hn24 hs h hc hne)
  have HE : Hid (Sort.medianAdjacent ltN d (t + 1) s = Sort.median ltN d t (t + 1) (t + 1 + 1) s) := Lib.hid rfl
  rw [HE.out]
  clear h hc ho hn
  go_enter Tryz.func102, Tryz.ntmps102
  go_wp2_with (go_at_call 103; refine C1.out.mono ?_; rintro e w1 ⟨rfl, hp1⟩; have K1 := Lib.hid hp1; clear hp1)
  go_ret
  exact ⟨rfl, K1.out⟩
end Go.Proofs.YtehdneppleifdaaGreatDoor
