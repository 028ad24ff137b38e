/- The contracts of chapter 7 as a long walk uses them: in any world that keeps what stood at its beginning. -/
import Derived.Test.YthlpjiibjlaebaaGreatDoorMGAI
import Derived.Test.YthlpjiibjlaebaaGreatDoorChaK
import Derived.Test.YthlpjiibjlaebaaGreatDoorCofK
import Derived.Test.YthlpjiibjlaebaaGreatDoorCntI
import Derived.Test.YthlpjiibjlaebaaGreatDoorMGAP
import Derived.Test.YthlpjiibjlaebaaGreatDoorMGAS
import Derived.Test.YthlpjiibjlaebaaGreatDoorMGAQ
import Derived.Test.YthlpjiibjlaebaaGreatDoorMGAL
namespace Go.Proofs.YthlpjiibjlaebaaGreatDoor
open Go.RowKit
set_option maxRecDepth 1000000
theorem qsCV {W0 W : World} {au : Option Addr} {cu : Nat} {l : List Int} {x y : Int} (hi : Ints W0 au l) (hl : l.length ≤ 4) (o : On W0 W) :
    Calls Tryz.prog 7 #[.agg #[.slice au l.length cu], .int .i64 x, .int .i64 y] W fun e w' => e = .returned (.int .i64 (valE l x y)) ∧ On W0 w' :=
  (sChar W au l _ cu x y rfl (by omega) (o.ints hi)).mono fun _ _ h => ⟨h.1, o.step h.2⟩
theorem qiCV {W0 W : World} {au : Option Addr} {cu : Nat} {l : List Int} {x y : Int} (hi : Ints W0 au l) (hl : l.length ≤ 4) (o : On W0 W) :
    Calls Tryz.prog 6 #[.agg #[.slice au l.length cu], .int .i64 x, .int .i64 y] W fun e w' => e = .returned (.int .i64 (valE l x y)) ∧ On W0 w' :=
  (iCV W au l _ cu x y rfl (by omega) (o.ints hi)).mono fun _ _ h => ⟨h.1, o.step h.2⟩
theorem qsAO {W0 W : World} {au : Option Addr} {cu : Nat} {l : List Int} {x : Int} (hi : Ints W0 au l) (hl : l.length ≤ 4) (o : On W0 W) :
    Calls Tryz.prog 14 #[.agg #[.slice au l.length cu], .int .i64 x] W fun e w' => e = .returned (.int .i64 (annE l x)) ∧ On W0 w' :=
  (sAnn W au l _ cu x rfl (by omega) (o.ints hi)).mono fun _ _ h => ⟨h.1, o.step h.2⟩
theorem qiAO {W0 W : World} {au : Option Addr} {cu : Nat} {l : List Int} {x : Int} (hi : Ints W0 au l) (hl : l.length ≤ 4) (o : On W0 W) :
    Calls Tryz.prog 13 #[.agg #[.slice au l.length cu], .int .i64 x] W fun e w' => e = .returned (.int .i64 (annE l x)) ∧ On W0 w' :=
  (iAO W au l _ cu x rfl (by omega) (o.ints hi)).mono fun _ _ h => ⟨h.1, o.step h.2⟩
theorem qsKO {W0 W : World} {au : Option Addr} {cu : Nat} {l : List Int} {x : Int} (hi : Ints W0 au l) (hl : l.length ≤ 4) (o : On W0 W) :
    Calls Tryz.prog 31 #[.agg #[.slice au l.length cu], .int .i64 x] W fun e w' => e = .returned (.int .i64 (kerE l x)) ∧ On W0 w' :=
  (sKer W au l _ cu x rfl (by omega) (o.ints hi)).mono fun _ _ h => ⟨h.1, o.step h.2⟩
theorem qiKO {W0 W : World} {au : Option Addr} {cu : Nat} {l : List Int} {x : Int} (hi : Ints W0 au l) (hl : l.length ≤ 4) (o : On W0 W) :
    Calls Tryz.prog 30 #[.agg #[.slice au l.length cu], .int .i64 x] W fun e w' => e = .returned (.int .i64 (kerE l x)) ∧ On W0 w' :=
  (iKO W au l _ cu x rfl (by omega) (o.ints hi)).mono fun _ _ h => ⟨h.1, o.step h.2⟩
theorem qsIZ {W0 W : World} {au : Option Addr} {cu : Nat} {l : List Int} {x y : Int} (hi : Ints W0 au l) (hl : l.length ≤ 4) (o : On W0 W) :
    Calls Tryz.prog 36 #[.agg #[.slice au l.length cu], .int .i64 x, .int .i64 y] W fun e w' => e = .returned (.bool (zeE l x y)) ∧ On W0 w' :=
  (sIsZ W au l _ cu x y rfl (by omega) (o.ints hi)).mono fun _ _ h => ⟨h.1, o.step h.2⟩
theorem qiIZ {W0 W : World} {au : Option Addr} {cu : Nat} {l : List Int} {x y : Int} {B : Nat} (hi : Ints W0 au l) (hl : l.length ≤ 4) (hB : B ≤ W0.heap.size) (ht : TabZ B W0) (o : On W0 W) :
    Calls Tryz.prog 18 #[.agg #[.slice au l.length cu], .int .i64 x, .int .i64 y] W fun e w' => e = .returned (.bool (zeE l x y)) ∧ On W0 w' :=
  (iIsZ W au l _ cu x y rfl (by omega) (o.ints hi) B (Nat.le_trans hB (Below.size o)) (o.tab hB ht)).mono fun _ _ h => ⟨h.1, o.step h.2⟩
theorem qsCC {W0 W : World} {au : Option Addr} {cu : Nat} {l : List Int} {x y : Int} (hi : Ints W0 au l) (hl : l.length ≤ 4) (o : On W0 W) :
    Calls Tryz.prog 28 #[.agg #[.slice au l.length cu], .int .i64 x, .int .i64 y] W fun e w' => ∃ (a2 : Option Addr) (c2 : Nat), e = .returned (.slice a2 (ccE l x y).length c2) ∧ Ints w' a2 (ccE l x y) ∧ On W0 w' :=
  (sCC W au l _ cu x y rfl (by omega) (o.ints hi)).mono fun _ _ ⟨v, h1, h2, h3⟩ => by
    obtain ⟨a2, c2, rfl⟩ := own_slice h2
    exact ⟨a2, c2, h1, own_ints h2, o.step h3⟩
theorem qiCC {W0 W : World} {au : Option Addr} {cu : Nat} {l : List Int} {x y : Int} {B : Nat} (hi : Ints W0 au l) (hl : l.length ≤ 4) (hB : B ≤ W0.heap.size) (ht : TabZ B W0) (o : On W0 W) :
    Calls Tryz.prog 22 #[.agg #[.slice au l.length cu], .int .i64 x, .int .i64 y] W fun e w' => ∃ (a2 : Option Addr) (c2 : Nat), e = .returned (.slice a2 (ccE l x y).length c2) ∧ Ints w' a2 (ccE l x y) ∧ On W0 w' :=
  (iCoef W au l _ cu x y rfl (by omega) (o.ints hi) B (Nat.le_trans hB (Below.size o)) (o.tab hB ht)).mono fun _ _ ⟨v, h1, h2, h3⟩ => by
    obtain ⟨a2, c2, rfl⟩ := own_slice h2
    exact ⟨a2, c2, h1, own_ints h2, o.step h3⟩
theorem qsAC {W0 W : World} {a b : Option Addr} {ca cb : Nat} {p q : List Int} (hp : p.length ≤ 1048576) (hq : q.length ≤ 1048576) (hi : Ints W0 a p) (hj : Ints W0 b q) (o : On W0 W) :
    Calls Tryz.prog 33 #[.slice a p.length ca, .slice b q.length cb] W fun e w' => ∃ (a2 : Option Addr) (c2 : Nat), e = .returned (.slice a2 (addC p q).length c2) ∧ Ints w' a2 (addC p q) ∧ On W0 w' :=
  (sAddC W a b p q _ _ ca cb rfl (by omega) rfl (by omega) (o.ints hi) (o.ints hj)).mono fun _ _ ⟨v, h1, h2, h3⟩ => by
    obtain ⟨a2, c2, rfl⟩ := own_slice h2
    exact ⟨a2, c2, h1, own_ints h2, o.step h3⟩
theorem qiAC {W0 W : World} {a b : Option Addr} {ca cb : Nat} {p q : List Int} (hp : p.length ≤ 1048576) (hq : q.length ≤ 1048576) (hi : Ints W0 a p) (hj : Ints W0 b q) (o : On W0 W) :
    Calls Tryz.prog 32 #[.slice a p.length ca, .slice b q.length cb] W fun e w' => ∃ (a2 : Option Addr) (c2 : Nat), e = .returned (.slice a2 (addC p q).length c2) ∧ Ints w' a2 (addC p q) ∧ On W0 w' :=
  (iAddC W a b p q _ _ ca cb rfl (by omega) rfl (by omega) (o.ints hi) (o.ints hj)).mono fun _ _ ⟨v, h1, h2, h3⟩ => by
    obtain ⟨a2, c2, rfl⟩ := own_slice h2
    exact ⟨a2, c2, h1, own_ints h2, o.step h3⟩
theorem qsMC {W0 W : World} {a b : Option Addr} {ca cb : Nat} {p q : List Int} (hp : p.length ≤ 1048576) (hq : q.length ≤ 1048576) (hi : Ints W0 a p) (hj : Ints W0 b q) (o : On W0 W) :
    Calls Tryz.prog 35 #[.slice a p.length ca, .slice b q.length cb] W fun e w' => ∃ (a2 : Option Addr) (c2 : Nat), e = .returned (.slice a2 (mulC p q).length c2) ∧ Ints w' a2 (mulC p q) ∧ On W0 w' :=
  (sMulC W a b p q _ _ ca cb rfl (by omega) rfl (by omega) (o.ints hi) (o.ints hj)).mono fun _ _ ⟨v, h1, h2, h3⟩ => by
    obtain ⟨a2, c2, rfl⟩ := own_slice h2
    exact ⟨a2, c2, h1, own_ints h2, o.step h3⟩
theorem qiMC {W0 W : World} {a b : Option Addr} {ca cb : Nat} {p q : List Int} (hp : p.length ≤ 1048576) (hq : q.length ≤ 1048576) (hi : Ints W0 a p) (hj : Ints W0 b q) (o : On W0 W) :
    Calls Tryz.prog 34 #[.slice a p.length ca, .slice b q.length cb] W fun e w' => ∃ (a2 : Option Addr) (c2 : Nat), e = .returned (.slice a2 (mulC p q).length c2) ∧ Ints w' a2 (mulC p q) ∧ On W0 w' :=
  (iMulC W a b p q _ _ ca cb rfl (by omega) rfl (by omega) (o.ints hi) (o.ints hj)).mono fun _ _ ⟨v, h1, h2, h3⟩ => by
    obtain ⟨a2, c2, rfl⟩ := own_slice h2
    exact ⟨a2, c2, h1, own_ints h2, o.step h3⟩
theorem qsOrd {W0 W : World} {au : Option Addr} {cu : Nat} {l : List Int} (hi : Ints W0 au l) (hl : l.length ≤ 4) (o : On W0 W) :
    Calls Tryz.prog 9 #[.agg #[.slice au l.length cu]] W fun e w' => e = .returned (.int .i64 (ordN l)) ∧ On W0 w' :=
  (sOrderOf W au l _ cu  rfl (by omega) (o.ints hi)).mono fun _ _ h => ⟨h.1, o.step h.2⟩
theorem qsExp {W0 W : World} {au : Option Addr} {cu : Nat} {l : List Int} (hi : Ints W0 au l) (hl : l.length ≤ 4) (o : On W0 W) :
    Calls Tryz.prog 10 #[.agg #[.slice au l.length cu]] W fun e w' => e = .returned (.int .i64 (expE l)) ∧ On W0 w' :=
  (sExp W au l _ cu  rfl (by omega) (o.ints hi)).mono fun _ _ h => ⟨h.1, o.step h.2⟩
theorem qsAdd {W0 W : World} {au : Option Addr} {cu : Nat} {l : List Int} {x y : Int} (hi : Ints W0 au l) (hl : l.length ≤ 4) (o : On W0 W) :
    Calls Tryz.prog 11 #[.agg #[.slice au l.length cu], .int .i64 x, .int .i64 y] W fun e w' => e = .returned (.int .i64 (addE l x y)) ∧ On W0 w' :=
  (sAddE W au l _ cu x y rfl (by omega) (o.ints hi)).mono fun _ _ h => ⟨h.1, o.step h.2⟩
theorem qsSgp {W0 W : World} {au : Option Addr} {cu : Nat} {l : List Int} {x : Int} (hi : Ints W0 au l) (hl : l.length ≤ 4) (o : On W0 W) :
    Calls Tryz.prog 16 #[.agg #[.slice au l.length cu], .int .i64 x] W fun e w' => e = .returned (.bool (sgB l x)) ∧ On W0 w' :=
  (sIsSub W au l _ cu x rfl (by omega) (o.ints hi)).mono fun _ _ h => ⟨h.1, o.step h.2⟩
theorem qiSgp {W0 W : World} {au : Option Addr} {cu : Nat} {l : List Int} {x : Int} {B : Nat} (hi : Ints W0 au l) (hl : l.length ≤ 4) (hB : B ≤ W0.heap.size) (ht : TabZ B W0) (o : On W0 W) :
    Calls Tryz.prog 15 #[.agg #[.slice au l.length cu], .int .i64 x] W fun e w' => e = .returned (.bool (sgB l x)) ∧ On W0 w' :=
  (iIsSub W au l _ cu x rfl (by omega) (o.ints hi) B (Nat.le_trans hB (Below.size o)) (o.tab hB ht)).mono fun _ _ h => ⟨h.1, o.step h.2⟩
theorem qsCns {W0 W : World} {au : Option Addr} {cu : Nat} {l : List Int} {x : Int} (hi : Ints W0 au l) (hl : l.length ≤ 4) (o : On W0 W) :
    Calls Tryz.prog 17 #[.agg #[.slice au l.length cu], .int .i64 x] W fun e w' => e = .returned (.int .i64 (cntE l x)) ∧ On W0 w' :=
  (sCount W au l _ cu x rfl (by omega) (o.ints hi)).mono fun _ _ h => ⟨h.1, o.step h.2⟩
theorem qsLst {W0 W : World} {au : Option Addr} {cu : Nat} {l : List Int} {x : Int} (hi : Ints W0 au l) (hl : l.length ≤ 4) (o : On W0 W) :
    Calls Tryz.prog 20 #[.agg #[.slice au l.length cu], .int .i64 x] W fun e w' => ∃ (a2 : Option Addr) (c2 : Nat), e = .returned (.slice a2 (lstE l x).length c2) ∧ Ints w' a2 (lstE l x) ∧ On W0 w' :=
  (sList W au l _ cu x rfl (by omega) (o.ints hi)).mono fun _ _ ⟨v, h1, h2, h3⟩ => by
    obtain ⟨a2, c2, rfl⟩ := own_slice h2
    exact ⟨a2, c2, h1, own_ints h2, o.step h3⟩
/-- Whether a number stands in a list. -/
theorem has_any (w : World) (a : Option Addr) (p : List Int) (n c : Nat) (y : Int) (hn : n = p.length) (hm : n ≤ 1048576) (hi : Ints w a p) :
    Calls Tryz.prog 19 #[.slice a n c, .int .i64 y] w fun e w' => e = .returned (.bool (p.contains y)) ∧ w = w' := by
  have HI := Lib.hid hi
  have HN := Lib.hid hn
  have HC : Hid (∀ k, k < p.length → p.getD k 0 = y → p.contains y = true) := Lib.hid (fun k hk e => by
    rw [List.contains_iff_mem, ← e]
    simp [List.getD, hk])
  have HD : Hid ((∀ k, k < p.length → p.getD k 0 ≠ y) → p.contains y = false) := Lib.hid (fun h => by
    rw [Bool.eq_false_iff]
    intro hc
    rw [List.contains_iff_mem] at hc
    obtain ⟨k, hk, e⟩ := List.getElem_of_mem hc
    exact h k hk (by simp [List.getD, hk, e]))
  clear hi hn
  go_enter Tryz.func19, Tryz.ntmps19
  go_wp2
  go_loopw [5] (fun i wr => ∃ k : Nat, k ≤ n ∧ i = .int .i64 k ∧ Hid (∀ j, j < k → p.getD j 0 ≠ y) ∧ w = wr) (fun i _ => n - (intOf i).toNat)
  case atStart => exact ⟨0, Nat.zero_le _, rfl, Lib.hid (fun j hj => by omega), rfl⟩
  case round =>
    obtain ⟨k, hk, rfl, HNO, rfl⟩ := hrel
    by_cases hlt : k < n
    · have hkl : k < p.length := by rw [← HN.out]; exact hlt
      rcases HI.out with h0 | ⟨b, off, ha, hbl, hc⟩
      · rw [h0] at hkl; simp at hkl
      · subst ha
        have r1 := hc k hkl
        have HY := Lib.hid (HC.out k hkl)
        obtain ⟨x, hx⟩ : ∃ x, p.getD k 0 = x := ⟨_, rfl⟩
        have HX := Lib.hid hx
        rw [hx] at r1 HY
        clear hx hc hkl hbl
        by_cases he : x = y
        · go_wp2
          go_ret
          exact ⟨by rw [HY.out he]; rfl, rfl⟩
        · go_wp2
          go_roundw
          case rel => exact ⟨k + 1, by omega, by go_num, Lib.hid (fun j hj => by
            rcases Nat.lt_or_ge j k with h | h
            · exact HNO.out j h
            · obtain rfl : j = k := by omega
              rw [HX.out]; exact he), by first | trivial | rfl⟩
          case measure => simp [intOf]; omega
    · obtain rfl : k = n := by omega
      go_wp2
      go_ret
      exact ⟨by rw [HD.out (by rw [← HN.out]; exact HNO.out)]; rfl, rfl⟩
set_option maxHeartbeats 1000000 in
theorem total_any (w : World) (a : Option Addr) (p : List Int) (n c : Nat) (hn : n = p.length) (hm : n ≤ 24) (hb : ∀ x ∈ p, 0 ≤ x ∧ x ≤ 24) (hi : Ints w a p) :
    Calls Tryz.prog 29 #[.slice a n c] w fun e w' => e = .returned (.int .i64 p.sum) ∧ w = w' := by
  have HI := Lib.hid hi
  have HN := Lib.hid hn
  have HBD := Lib.hid hb
  have HS : Hid (∀ k, k ≤ p.length → 0 ≤ (p.take k).sum ∧ (p.take k).sum ≤ 24 * k) := Lib.hid (by
    intro k
    induction k with
    | zero => intro _; simp
    | succ k ih =>
      intro hk
      have h1 := ih (by omega)
      have hkl : k < p.length := by omega
      have h2 := hb (p.getD k 0) (by simp [List.getD, hkl])
      rw [List.take_add_one, List.getElem?_eq_getElem hkl, List.sum_append]
      have h3 : p[k] = p.getD k 0 := by simp [List.getD, hkl]
      simp only [Option.toList_some, List.sum_cons, List.sum_nil, h3]
      omega)
  clear hi hn hb
  go_enter Tryz.func29, Tryz.ntmps29
  go_wp2
  go_loopw [3, 4] (fun s i wr => ∃ k : Nat, k ≤ n ∧ i = .int .i64 k ∧ s = .int .i64 (p.take k).sum ∧ w = wr) (fun _ i _ => n - (intOf i).toNat)
  case atStart => exact ⟨0, Nat.zero_le _, rfl, rfl, rfl⟩
  case round =>
    obtain ⟨k, hk, rfl, rfl, rfl⟩ := hrel
    by_cases hlt : k < n
    · have hkl : k < p.length := by rw [← HN.out]; exact hlt
      rcases HI.out with h0 | ⟨b, off, ha, hbl, hc⟩
      · rw [h0] at hkl; simp at hkl
      · subst ha
        have r1 := hc k hkl
        have h1 := HS.out k (by omega)
        have h2 := HBD.out (p.getD k 0) (by simp [List.getD, hkl])
        have HT : Hid ((p.take (k + 1)).sum = (p.take k).sum + p.getD k 0) := Lib.hid (by
          rw [List.take_add_one, List.getElem?_eq_getElem hkl, List.sum_append]
          simp [List.getD, hkl])
        obtain ⟨x, hx⟩ : ∃ x, p.getD k 0 = x := ⟨_, rfl⟩
        obtain ⟨s, hs⟩ : ∃ s, (p.take k).sum = s := ⟨_, rfl⟩
        rw [hx] at r1 h2 HT
        rw [hs] at h1 HT
        rw [hs]
        clear hx hs hc hkl hbl
        go_wp2
        go_roundw
        case rel => exact ⟨k + 1, by omega, by go_num, by rw [HT.out], by first | trivial | rfl⟩
        case measure => simp [intOf]; omega
    · obtain rfl : k = n := by omega
      go_wp2
      go_ret
      exact ⟨by rw [HN.out, List.take_length]; rfl, rfl⟩
theorem qTot {W0 W : World} {a : Option Addr} {c : Nat} {p : List Int} (hp : p.length ≤ 24) (hb : ∀ x ∈ p, 0 ≤ x ∧ x ≤ 24) (hi : Ints W a p) (o : On W0 W) :
    Calls Tryz.prog 29 #[.slice a p.length c] W fun e w' => e = .returned (.int .i64 p.sum) ∧ On W0 w' :=
  (total_any W a p _ c rfl hp hb hi).mono fun _ _ h => ⟨h.1, by rw [← h.2]; exact o⟩
end Go.Proofs.YthlpjiibjlaebaaGreatDoor
