/- The library's sort of sets: insertion. -/
import Derived.Test.YtiponiflebmooaaSrt1
namespace Go.Proofs.Ytiponiflebmooaa
open Go.RowKit
set_option maxRecDepth 1000000
theorem ins_in (a u : Nat) (D : Array Nat) : Sort.insInner ltN a (u + 1) D = if (decide (u + 1 > a) && ltN D[u + 1]! D[u]!) = true then Sort.insInner ltN a u (Sort.swp D (u + 1) u) else D := rfl
theorem ins_lo {a t : Nat} (h : ¬ a < t) (D : Array Nat) : Sort.insInner ltN a t D = D := by
  cases t with
  | zero => rfl
  | succ u => rw [ins_in, decide_eq_false h, if_neg (by simp)]
theorem ins_size (a : Nat) : ∀ (t : Nat) (D : Array Nat), (Sort.insInner ltN a t D).size = D.size
  | 0, _ => rfl
  | u + 1, D => by
    rw [ins_in]
    split
    · rw [ins_size a u, swp_size]
    · rfl
theorem grown_trans {a b c : World} {row : Option Nat} (h : a.grownBy b row) (k : b.grownBy c row) : a.grownBy c row := grownG_trans h k
theorem grown_drew {w wr : World} {g : Nat} (h : w.grownBy wr (some g)) (q : Nat) : w.grownBy (wr.drewN q) (some g) := ⟨h.os, h.tape, h.output, h.size, h.block⟩
theorem grown_swp {w wr : World} {g i j : Nat} {x y : Value} (h : w.grownBy wr (some g)) : w.grownBy ((wr.setCell ⟨g, i, none⟩ x).setCell ⟨g, j, none⟩ y) (some g) := grownG_set (grownG_set h _ _) _ _
set_option maxHeartbeats 4000000 in
theorem srtIns (w : World) (g off : Nat) (pre tl : List Value) (d : Array Nat) (n cap a b : Nat) (ho : pre.length = off) (hn : n = d.size) (hb : b ≤ n) (ha : a ≤ 16777216) (hn24 : n ≤ 16777216) (h : SR w g pre tl d) :
    Calls Try.prog 41 #[.slice (some ⟨g, off, none⟩) n cap, .int .i64 a, .int .i64 b] w fun e w' => e = .returned (.tuple #[]) ∧ SR w' g pre tl (Sort.insertionSort ltN d a b) ∧ w.grownBy w' (some g) := by
  have HR := Lib.hid h
  have HN := Lib.hid hn.symm
  have HOF := Lib.hid ho
  clear h hn ho
  go_enter Try.func41, Try.ntmps41
  go_wp2
  go_loopw [6] (fun i wr => ∃ (k : Nat) (D : Array Nat), i = .int .i64 k ∧ a + 1 ≤ k ∧ k ≤ 16777218 ∧ SR wr g pre tl D ∧ D.size = n ∧ Hid (Sort.insOuter ltN a b k D = Sort.insertionSort ltN d a b) ∧ w.grownBy wr (some g)) (fun i _ => b - (intOf i).toNat)
  case atStart => exact ⟨a + 1, d, by go_num, Nat.le_refl _, by omega, HR.out, HN.out, Lib.hid rfl, World.grownBy.refl _ _⟩
  case round =>
    obtain ⟨k, D, rfl, hk1, hk2, hsr, hsz, HO, hgr⟩ := hrel
    have HSR := Lib.hid hsr
    have HSZ := Lib.hid hsz
    have HGR := Lib.hid hgr
    by_cases hkb : k < b
    · have hkb' : (k : Int) < (b : Int) := by omega
      obtain ⟨T, HT⟩ : ∃ T, Hid (Sort.insInner ltN a k D = T) := ⟨_, Lib.hid rfl⟩
      have HO2 : Hid (Sort.insOuter ltN a b (k + 1) T = Sort.insertionSort ltN d a b) := Lib.hid (by
        rw [← HT.out, ← HO.out]
        conv => rhs; unfold Sort.insOuter
        rw [if_pos hkb])
      have HTS : Hid (T.size = n) := Lib.hid (by rw [← HT.out]; exact (ins_size a k D).trans HSZ.out)
      clear hsr hsz hgr
      go_wp2
      go_loopw [7] (fun j wr => ∃ (t : Nat) (D2 : Array Nat), j = .int .i64 t ∧ t ≤ k ∧ SR wr g pre tl D2 ∧ D2.size = n ∧ Hid (Sort.insInner ltN a t D2 = T) ∧ w.grownBy wr (some g)) (fun j _ => (intOf j).toNat)
      case atStart => exact ⟨k, D, rfl, Nat.le_refl _, HSR.out, HSZ.out, HT, HGR.out⟩
      case round =>
        obtain ⟨t, D2, rfl, htk, hsr, hsz, HI, hgr⟩ := hrel
        have HSR2 := Lib.hid hsr
        have HSZ2 := Lib.hid hsz
        have HGR2 := Lib.hid hgr
        clear hsr hsz hgr
        by_cases hta : a < t
        · obtain ⟨u, rfl⟩ : ∃ u, t = u + 1 := ⟨t - 1, by omega⟩
          obtain ⟨G, hG⟩ : ∃ G : Nat → Nat, ∀ t, G t = D2[t]! := ⟨fun t => D2[t]!, fun _ => rfl⟩
          have hcw : ∀ t, t < n → wr.cell? ⟨g, off + t, none⟩ = some (.int .u64 ((G t : Nat) : Int)) := fun t ht => by rw [hG]; exact HSR2.out.fam HOF.out (by rw [HSZ2.out]; exact ht)
          have hfw : ∀ t, t < n → wr.frozen? ⟨g, off + t, none⟩ = false := fun t _ => HSR2.out.frozen _
          have HG := Lib.hid hG
          clear hG
          have hta' : (a : Int) < (u : Int) + 1 := by omega
          cases hl : ltN (G (u + 1)) (G u) with
          | true =>
            have HI2 : Hid (Sort.insInner ltN a u (Sort.swp D2 (u + 1) u) = T) := Lib.hid (by
              rw [← HI.out, ins_in, ← HG.out, ← HG.out, hl, decide_eq_true hta, if_pos (by simp)])
            go_wp2_with fail
            go_quiet (first | (go_at_call 47; refine Calls.quiet_of_same (iLt _ _ _)))
            go_wp2
            go_region
            all_goals go_wp2

            go_roundw
            case rel => exact ⟨u, Sort.swp D2 (u + 1) u, by go_num, by omega, by rw [HG.out, HG.out]; exact (HSR2.out.drewN _).swp HOF.out (by rw [HSZ2.out]; omega) (by rw [HSZ2.out]; omega), by rw [swp_size]; exact HSZ2.out, HI2, grown_swp (grown_drew HGR2.out _)⟩
            case measure => first | (simp [intOf]; done) | (simp [intOf]; omega)
          | false =>
            have HI2 : Hid (T = D2) := Lib.hid (by
              rw [← HI.out, ins_in, ← HG.out, ← HG.out, hl, if_neg (by simp)])
            go_wp2_with fail
            go_quiet (first | (go_at_call 47; refine Calls.quiet_of_same (iLt _ _ _)))
            go_wp2
            go_roundw
            case rel => exact ⟨k + 1, T, by go_num, by omega, by omega, by rw [HI2.out]; exact HSR2.out.drewN _, HTS.out, HO2, grown_drew HGR2.out _⟩
            case measure => first | (simp [intOf]; done) | (simp [intOf]; omega)
        · have HI2 : Hid (T = D2) := Lib.hid (by rw [← HI.out, ins_lo hta])
          have hta' : ¬ (a : Int) < (t : Int) := by omega
          go_wp2_with fail
          go_quiet (first | (go_at_call 47; refine Calls.quiet_of_same (iLt _ _ _)))
          go_wp2
          go_roundw
          case rel => exact ⟨k + 1, T, by go_num, by omega, by omega, by rw [HI2.out]; exact HSR2.out.drewN _, HTS.out, HO2, grown_drew HGR2.out _⟩
          case measure => first | (simp [intOf]; done) | (simp [intOf]; omega)
    · have hkb' : ¬ (k : Int) < (b : Int) := by omega
      have HE : Hid (D = Sort.insertionSort ltN d a b) := Lib.hid (by
        rw [← HO.out]
        unfold Sort.insOuter
        rw [if_neg hkb])
      clear hsr hsz hgr
      go_wp2
      go_end0
      exact ⟨rfl, by rw [← HE.out]; exact HSR.out, HGR.out⟩
end Go.Proofs.Ytiponiflebmooaa
