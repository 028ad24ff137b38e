/- The library's sort of sets: heap sort; a range reversed. -/
import Derived.Test.YtiponiflebmooaaSrt3
namespace Go.Proofs.Ytiponiflebmooaa
open Go.RowKit
set_option maxRecDepth 1000000
theorem sift_size' (hi f r : Nat) (D : Array Nat) : (Sort.siftDown ltN hi f r D).size = D.size := sift_size hi f _ r D (Nat.le_refl _)
set_option maxHeartbeats 4000000 in
theorem srtHeap (w : World) (g off : Nat) (pre tl : List Value) (d : Array Nat) (n cap a b : Nat) (ho : pre.length = off) (hn : n = d.size) (hab : a ≤ b) (hb : b ≤ n) (hn24 : n ≤ 16777216) (h : SR w g pre tl d) :
    Calls Try.prog 42 #[.slice (some ⟨g, off, none⟩) n cap, .int .i64 a, .int .i64 b] w fun e w' => e = .returned (.tuple #[]) ∧ SR w' g pre tl (Sort.heapSort ltN d a b) ∧ w.grownBy w' (some g) := by
  have HR := Lib.hid h
  have HN := Lib.hid hn.symm
  have HOF := Lib.hid ho
  obtain ⟨H, hH⟩ : ∃ H, H = b - a := ⟨_, rfl⟩
  have eh : (b : Int) - (a : Int) = (H : Int) := by omega
  obtain ⟨K, hK⟩ : ∃ K, K = (H - 1) / 2 := ⟨_, rfl⟩
  have ek : ((H : Int) - 1).tdiv 2 = (K : Int) := by
    by_cases h0 : H = 0
    · subst h0; subst hK; rfl
    · rw [Int.tdiv_eq_ediv_of_nonneg (by omega)]; omega
  have HT : Hid (Sort.heapSort ltN d a b = Sort.heapPop ltN a H (Sort.heapBuild ltN H a (K + 1) d)) := Lib.hid (by
    unfold Sort.heapSort
    rw [← hH, ← hK])
  have hHn : a + H ≤ n := by omega
  have hKH : K ≤ H := by omega
  clear h hn ho hH hK
  go_enter Try.func42, Try.ntmps42
  go_wp2
  go_loopw [9] (fun i wr => ∃ (k : Nat) (v : Int) (D : Array Nat), i = .int .i64 v ∧ v = (k : Int) - 1 ∧ k ≤ K + 1 ∧ SR wr g pre tl D ∧ D.size = n ∧ Hid (Sort.heapBuild ltN H a k D = Sort.heapBuild ltN H a (K + 1) d) ∧ w.grownBy wr (some g)) (fun i _ => (intOf i + 1).toNat)
  case atStart => exact ⟨K + 1, (K : Int), d, rfl, by omega, Nat.le_refl _, HR.out, HN.out, Lib.hid rfl, World.grownBy.refl _ _⟩
  case round =>
    obtain ⟨k, v, D, rfl, hv, hk, hsr, hsz, HO, hgr⟩ := hrel
    have HSR := Lib.hid hsr
    have HSZ := Lib.hid hsz
    have HGR := Lib.hid hgr
    clear hsr hsz hgr
    by_cases h0 : 0 ≤ v
    · obtain ⟨u, rfl⟩ : ∃ u : Nat, v = (u : Int) := ⟨v.toNat, by omega⟩
      obtain rfl : k = u + 1 := by omega
      have HO2 : Hid (Sort.heapBuild ltN H a u (Sort.siftDown ltN H a u D) = Sort.heapBuild ltN H a (K + 1) d) := HO
      have CS := Lib.hid (fun (W : World) (hW : SR W g pre tl D) => srtSift W g off pre tl D n cap u H a HOF.out HSZ.out.symm hHn hn24 (by omega) hW)
      clear HO hv
      go_wp2_with (go_at_call 52; refine (CS.out _ HSR.out).mono ?_; rintro e w1 ⟨rfl, hs1, hg1⟩)
      go_roundw
      case rel => exact ⟨u, (u : Int) - 1, Sort.siftDown ltN H a u D, by go_num, rfl, by omega, hs1, by rw [sift_size']; exact HSZ.out, HO2, grown_trans HGR.out hg1⟩
      case measure => first | (simp [intOf]; done) | (simp [intOf]; omega) | omega
    · obtain rfl : k = 0 := by omega
      have HD : Hid (D = Sort.heapBuild ltN H a (K + 1) d) := HO
      have HT2 : Hid (Sort.heapSort ltN d a b = Sort.heapPop ltN a H D) := Lib.hid (by rw [HD.out]; exact HT.out)
      obtain ⟨wa, rfl⟩ : ∃ W, W = wr := ⟨wr, rfl⟩
      clear HO HD hv
      go_wp2
      go_loopw [10] (fun i wr => ∃ (k : Nat) (v : Int) (D2 : Array Nat), i = .int .i64 v ∧ v = (k : Int) - 1 ∧ k ≤ H ∧ SR wr g pre tl D2 ∧ D2.size = n ∧ Hid (Sort.heapPop ltN a k D2 = Sort.heapSort ltN d a b) ∧ w.grownBy wr (some g)) (fun i _ => (intOf i + 1).toNat)
      case atStart => exact ⟨H, (H : Int) - 1, D, by go_num, rfl, Nat.le_refl _, HSR.out, HSZ.out, Lib.hid HT2.out.symm, HGR.out⟩
      case round =>
        obtain ⟨k, v, D2, rfl, hv, hk, hsr, hsz, HO, hgr⟩ := hrel
        have HSRb := Lib.hid hsr
        have HSRZ := Lib.hid hsz
        have HGR2 := Lib.hid hgr
        clear hsr hsz hgr
        by_cases h0 : 0 ≤ v
        · obtain ⟨u, rfl⟩ : ∃ u : Nat, v = (u : Int) := ⟨v.toNat, by omega⟩
          obtain rfl : k = u + 1 := by omega
          obtain ⟨p, hp⟩ : ∃ p, p = a + u := ⟨_, rfl⟩
          have ep : (a : Int) + (u : Int) = (p : Int) := by omega
          have hpn : p < n := by omega
          have han : a < n := by omega
          have wp : IntKind.i64.wrap (p : Int) = (p : Int) := by rw [IntKind.wrap_i64]; omega
          have HO2 : Hid (Sort.heapPop ltN a u (Sort.siftDown ltN u a 0 (Sort.swp D2 a p)) = Sort.heapSort ltN d a b) := Lib.hid (by rw [hp]; exact HO.out)
          obtain ⟨G, hG⟩ : ∃ G : Nat → Nat, ∀ t, G t = D2[t]! := ⟨fun t => D2[t]!, fun _ => rfl⟩
          have hcw : ∀ t, t < n → wr.cell? ⟨g, off + t, none⟩ = some (.int .u64 ((G t : Nat) : Int)) := fun t ht => by rw [hG]; exact HSRb.out.fam HOF.out (by rw [HSRZ.out]; exact ht)
          have hfw : ∀ t, t < n → wr.frozen? ⟨g, off + t, none⟩ = false := fun t _ => HSRb.out.frozen _
          have HG := Lib.hid hG
          clear hG
          have CS := Lib.hid (fun (W : World) (hW : SR W g pre tl (Sort.swp D2 a p)) => srtSift W g off pre tl (Sort.swp D2 a p) n cap 0 u a HOF.out (by rw [swp_size]; exact HSRZ.out.symm) (by omega) hn24 (by omega) hW)
          clear HO hv hp
          have HZ := Lib.hid (fun (q : Nat) => HSR2 HSRb.out q HG.out (i := a) (j := p) (by rw [HSRZ.out]; exact han) (by rw [HSRZ.out]; exact hpn) HOF.out)
          by_cases hpa : p = a
          · subst hpa
            obtain rfl : u = 0 := by omega
            go_wp2
            go_region
            all_goals go_wp2_with (go_at_call 52; refine (CS.out _ (HZ.out _)).mono ?_; rintro e w1 ⟨rfl, hs1, hg1⟩)
            go_roundw
            case rel => exact ⟨0, -1, Sort.siftDown ltN 0 p 0 (Sort.swp D2 p p), by go_num, rfl, by omega, hs1, by rw [sift_size', swp_size]; exact HSRZ.out, HO2, grown_trans (grown_swp (grown_drew HGR2.out _)) hg1⟩
            case measure => first | (simp [intOf]; done) | (simp [intOf]; omega) | omega
          · have hpa' : a < p := by omega
            go_wp2
            go_region
            all_goals go_wp2_with (go_at_call 52; refine (CS.out _ (HZ.out _)).mono ?_; rintro e w1 ⟨rfl, hs1, hg1⟩)
            go_roundw
            case rel => exact ⟨u, (u : Int) - 1, Sort.siftDown ltN u a 0 (Sort.swp D2 a p), by go_num, rfl, by omega, hs1, by rw [sift_size', swp_size]; exact HSRZ.out, HO2, grown_trans (grown_swp (grown_drew HGR2.out _)) hg1⟩
            case measure => first | (simp [intOf]; done) | (simp [intOf]; omega) | omega
        · obtain rfl : k = 0 := by omega
          have HD : Hid (D2 = Sort.heapSort ltN d a b) := HO
          clear HO hv
          go_wp2
          go_end0
          exact ⟨rfl, by rw [← HD.out]; exact HSRb.out, HGR2.out⟩
end Go.Proofs.Ytiponiflebmooaa
