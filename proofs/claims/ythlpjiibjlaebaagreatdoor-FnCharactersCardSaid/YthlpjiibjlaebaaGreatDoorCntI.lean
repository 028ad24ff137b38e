/- The program's own counts: checked, added, multiplied. -/
import Derived.Test.YthlpjiibjlaebaaGreatDoorChaSpec3
import Derived.Test.YthlpjiibjlaebaaGreatDoorMGAE
namespace Go.Proofs.YthlpjiibjlaebaaGreatDoor
open Go.RowKit
set_option maxRecDepth 1000000
def wOk (c x : Int) : Bool := decide (-c ≤ x) && decide (x ≤ c)
theorem iWth (w : World) (c x : Int) (b : Nat) (c0 : 0 ≤ c) (c1 : c ≤ 1000000) (hb : w.cell? ⟨b, 0, none⟩ = some (.int .i64 c)) : Calls Tryz.prog 97 #[.int .i64 x, .pointer (some ⟨b, 0, none⟩)] w fun e w' => e = .returned (.bool (!wOk c x)) ∧ w = w' := by
  have hw : IntKind.i64.wrap (-c) = -c := by rw [IntKind.wrap_i64]; omega
  by_cases h1 : x < -c
  · have hd : wOk c x = false := by simp [wOk]; omega
    rw [hd]
    go_enter Tryz.func97, Tryz.ntmps97
    go_wp2
    go_ret
    exact ⟨rfl, rfl⟩
  · by_cases h2 : x > c
    · have hd : wOk c x = false := by simp [wOk]; omega
      rw [hd]
      go_enter Tryz.func97, Tryz.ntmps97
      go_wp2
      go_ret
      exact ⟨rfl, rfl⟩
    · have hd : wOk c x = true := by simp [wOk]; omega
      rw [hd]
      go_enter Tryz.func97, Tryz.ntmps97
      go_wp2
      go_ret
      exact ⟨rfl, rfl⟩
theorem iIdx (w : World) (a : Option Addr) (p : List Int) (n cap : Nat) (c : Int) (bc : Nat) (c0 : 0 ≤ c) (c1 : c ≤ 1000000) (hcc : w.cell? ⟨bc, 0, none⟩ = some (.int .i64 c)) (hn : n = p.length) (hm : n ≤ 9223372036854775807) (hi : Ints w a p) :
    Calls Tryz.prog 103 #[.slice a n cap, .func (.func 97) #[] #[.pointer (some ⟨bc, 0, none⟩)]] w fun e w' => (∃ v : Int, e = .returned (.int .i64 v) ∧ decide (0 ≤ v) = !(p.all fun x => wOk c x)) ∧ w = w' := by
  have HI := Lib.hid hi
  have HIW := Lib.hid (fun x => iWth w c x bc c0 c1 hcc)
  have HN := Lib.hid hn
  have HNO : Hid (∀ k, k < p.length → wOk c (p.getD k 0) = false → (p.all fun x => wOk c x) = false) := Lib.hid (fun k hk h => by
    rw [List.all_eq_false]
    exact ⟨p.getD k 0, by simp [List.getD, hk], by rw [h]; simp⟩)
  have HAL : Hid ((∀ k, k < p.length → wOk c (p.getD k 0) = true) → (p.all fun x => wOk c x) = true) := Lib.hid (fun h => by
    rw [List.all_eq_true]
    intro x hx
    obtain ⟨k, hk, rfl⟩ := List.getElem_of_mem hx
    have := h k hk
    simpa [List.getD, hk] using this)
  obtain ⟨r, hr⟩ : ∃ r, (p.all fun x => wOk c x) = r := ⟨_, rfl⟩
  rw [hr] at HNO HAL
  rw [hr]
  clear hi hn hr hcc
  go_enter Tryz.func103, Tryz.ntmps103
  go_wp2
  go_loopw [8] (fun i wr => ∃ k : Nat, k ≤ n ∧ i = .int .i64 k ∧ Hid (∀ j, j < k → wOk c (p.getD j 0) = true) ∧ w = wr) (fun i _ => n - (intOf i).toNat)
  case atStart => exact ⟨0, Nat.zero_le _, rfl, Lib.hid (fun j hj => absurd hj (by omega)), rfl⟩
  case round =>
    obtain ⟨k, hk, rfl, HOK, rfl⟩ := hrel
    by_cases hlt : k < n
    · have hkl : k < p.length := by rw [← HN.out]; exact hlt
      rcases HI.out with h0 | ⟨b, off, ha, hbl, hc⟩
      · rw [h0] at hkl; simp at hkl
      · subst ha
        have r1 := hc k hkl
        have HNK := Lib.hid (HNO.out k hkl)
        have HNX : Hid (wOk c (p.getD k 0) = true → ∀ j, j < k + 1 → wOk c (p.getD j 0) = true) := Lib.hid (fun h j hj => by
          by_cases hjk : j < k
          · exact HOK.out j hjk
          · obtain rfl : j = k := by omega
            exact h)
        obtain ⟨x, hx⟩ : ∃ x, p.getD k 0 = x := ⟨_, rfl⟩
        rw [hx] at r1 HNK HNX
        clear hc hkl hbl hx
        cases hok : wOk c x with
        | true =>
          have HE := Lib.hid hok
          have HN2 := Lib.hid (HNX.out hok)
          clear hok HNK HNX
          go_wp2_with (go_at_call 97; refine (HIW.out x).mono ?_; rw [HE.out]; rintro e w5 ⟨rfl, rfl⟩)
          go_roundw
          case rel => exact ⟨k + 1, by omega, by go_num, HN2, by first | trivial | rfl⟩
          case measure => simp [intOf]; omega
        | false =>
          have HE := Lib.hid hok
          have hrr := HNK.out hok
          subst hrr
          clear hok HNK HNX
          go_wp2_with (go_at_call 97; refine (HIW.out x).mono ?_; rw [HE.out]; rintro e w5 ⟨rfl, rfl⟩)
          go_ret
          exact ⟨⟨_, rfl, by simp⟩, rfl⟩
    · obtain rfl : k = n := by omega
      have hrr := HAL.out (fun j hj => HOK.out j (by rw [HN.out]; exact hj))
      subst hrr
      go_wp2
      go_ret
      exact ⟨⟨_, rfl, by simp⟩, rfl⟩
theorem iCon (w : World) (a : Option Addr) (p : List Int) (n cap : Nat) (c : Int) (bc : Nat) (c0 : 0 ≤ c) (c1 : c ≤ 1000000) (hcc : w.cell? ⟨bc, 0, none⟩ = some (.int .i64 c)) (hn : n = p.length) (hm : n ≤ 9223372036854775807) (hi : Ints w a p) :
    Calls Tryz.prog 96 #[.slice a n cap, .func (.func 97) #[] #[.pointer (some ⟨bc, 0, none⟩)]] w fun e w' => e = .returned (.bool (!(p.all fun x => wOk c x))) ∧ w = w' := by
  have HI := Lib.hid hi
  have HCC := Lib.hid hcc
  have HN := Lib.hid hn
  obtain ⟨r, hr⟩ : ∃ r, (p.all fun x => wOk c x) = r := ⟨_, rfl⟩
  have HR := Lib.hid hr
  rw [hr]
  clear hi hn hr hcc
  go_enter Tryz.func96, Tryz.ntmps96
  go_wp2_with (go_at_call 103; refine (iIdx _ _ p _ _ c bc c0 c1 HCC.out HN.out hm HI.out).mono ?_; rw [HR.out]; rintro e w5 ⟨⟨v, rfl, hv⟩, rfl⟩; have HV := Lib.hid hv; clear hv)
  go_ret
  exact ⟨by rw [← HV.out]; rfl, rfl⟩
theorem iWthn (w : World) (a : Option Addr) (p : List Int) (n cap : Nat) (c : Int) (c0 : 0 ≤ c) (c1 : c ≤ 1000000) (hn : n = p.length) (hm : n ≤ 9223372036854775807) (hi : Ints w a p) :
    Calls Tryz.prog 85 #[.slice a n cap, .int .i64 c] w fun e w' => e = .returned (.bool (p.all fun x => wOk c x)) ∧ Below w.heap.size w w' := by
  have HI := Lib.hid (ints_alloc hi (.cells #[.int .i64 c] 3))
  have HN := Lib.hid hn
  have HCC := Lib.hid (newC w (.int .i64 c) 3 (n := w.heap.size) rfl)
  have HB := Lib.hid (Joins.below_alloc1 w (.cells #[.int .i64 c] 3))
  have hmf : ∀ (fn : Fn) (first cap : Array Value) (w : World), (Instr.makeFunc fn first cap).run Tryz.prog w = .ok (.func fn first cap) w := fun _ _ _ _ => rfl
  obtain ⟨r, hr⟩ : ∃ r, (p.all fun x => wOk c x) = r := ⟨_, rfl⟩
  have HR := Lib.hid hr
  rw [hr]
  clear hi hn hr
  go_enter Tryz.func85, Tryz.ntmps85
  go_wp2_with (go_at_call 96; refine (iCon _ _ p _ _ c _ c0 c1 HCC.out HN.out hm HI.out).mono ?_; rw [HR.out]; rintro e w5 ⟨rfl, rfl⟩)
  go_ret
  exact ⟨by simp, HB.out⟩
theorem iWthC (w : World) (a : Option Addr) (p : List Int) (n cap : Nat) (hn : n = p.length) (hm : n ≤ 9223372036854775807) (hi : Ints w a p) :
    Calls Tryz.prog 85 #[.slice a n cap, .int .i64 1000] w fun e w' => e = .returned (.bool (p.all fun x => cntOk x)) ∧ Below w.heap.size w w' :=
  iWthn w a p n cap 1000 (by decide) (by decide) hn hm hi
theorem iAre (w : World) (a b : Option Addr) (p q : List Int) (n m ca cb : Nat) (hn : n = p.length) (hm : n ≤ 9223372036854775807) (hn2 : m = q.length) (hm2 : m ≤ 9223372036854775807) (hi : Ints w a p) (hj : Ints w b q) :
    Calls Tryz.prog 60 #[.slice a n ca, .slice b m cb] w fun e w' => e = .returned (.bool (addB p q)) ∧ Below w.heap.size w w' := by
  have HI := Lib.hid hi
  have HJ := Lib.hid hj
  have HN := Lib.hid hn
  have HM := Lib.hid hn2
  have HA : Hid (addB p q = (((p.all fun x => cntOk x) && (decide (1 ≤ (n : Int)) && decide ((n : Int) ≤ 24))) && (((q.all fun x => cntOk x) && (decide (1 ≤ (m : Int)) && decide ((m : Int) ≤ 24))) && decide (n = m)))) := Lib.hid (by
    unfold addB cntB
    rw [← hn, ← hn2]
    rfl)
  clear hi hj hn hn2
  by_cases hl : n = m
  · subst hl
    have hne : ((n : Int) != (n : Int)) = false := by simp
    by_cases h1 : (n : Int) < 1
    · have hd : addB p q = false := by rw [HA.out]; have : ¬ (1 : Int) ≤ (n : Int) := by omega
                                       simp [this]
      rw [hd]
      clear hd
      go_enter Tryz.func60, Tryz.ntmps60
      go_wp2
      go_ret
      exact ⟨rfl, Below.refl _ _⟩
    · by_cases h2 : (n : Int) > 24
      · have hd : addB p q = false := by rw [HA.out]; have : ¬ (n : Int) ≤ 24 := by omega
                                         simp [this]
        rw [hd]
        clear hd
        go_enter Tryz.func60, Tryz.ntmps60
        go_wp2
        go_ret
        exact ⟨rfl, Below.refl _ _⟩
      · have hd : addB p q = ((p.all fun x => cntOk x) && (q.all fun x => cntOk x)) := by
          rw [HA.out]
          have h3 : (1 : Int) ≤ (n : Int) := by omega
          have h4 : (n : Int) ≤ 24 := by omega
          simp [h3, h4]
        rw [hd]
        clear hd HA
        cases hp : (p.all fun x => cntOk x) with
        | false =>
          have HP := Lib.hid hp
          clear hp
          go_enter Tryz.func60, Tryz.ntmps60
          go_wp2_with (go_at_call 85; refine (iWthC _ _ p _ _ HN.out hm HI.out).mono ?_; rw [HP.out]; rintro e w5 ⟨rfl, hb5⟩)
          go_ret
          exact ⟨rfl, hb5⟩
        | true =>
          have HP := Lib.hid hp
          obtain ⟨r, hq⟩ : ∃ r, (q.all fun x => cntOk x) = r := ⟨_, rfl⟩
          have HQ := Lib.hid hq
          rw [hq]
          clear hp hq
          go_enter Tryz.func60, Tryz.ntmps60
          go_wp2_with (first
            | (go_at_call 85; have hx_ := F5; clear hx_; refine (iWthC _ _ q _ _ HM.out hm2 (HJ.out.below rfl F5.out)).mono ?_; rw [HQ.out]; rintro e w6 ⟨rfl, hb6⟩)
            | (go_at_call 85; refine (iWthC _ _ p _ _ HN.out hm HI.out).mono ?_; rw [HP.out]; rintro e w5 ⟨rfl, hb5⟩; have F5 := Lib.hid hb5))
          go_ret
          exact ⟨by simp, F5.out.trans (hb6.mono F5.out.size)⟩
  · have hne : ((n : Int) != (m : Int)) = true := by
      have : (n : Int) ≠ (m : Int) := by omega
      simpa using this
    have hd : addB p q = false := by rw [HA.out]; simp [hl]
    rw [hd]
    clear hd
    go_enter Tryz.func60, Tryz.ntmps60
    go_wp2
    go_ret
    exact ⟨rfl, Below.refl _ _⟩
/-- The first k sums, and zeros behind them. -/
def addF (p q : List Int) (k : Nat) : Nat → Int := fun z => if z < k then p.getD z 0 + q.getD z 0 else 0
theorem addF_set (p q : List Int) (n k : Nat) : (rowV (addF p q k) n).set k (.int .i64 (p.getD k 0 + q.getD k 0)) = rowV (addF p q (k + 1)) n := by
  apply List.ext_getElem?
  intro j
  unfold rowV rowZ addF
  by_cases hjn : j < n
  · by_cases e : k = j
    · subst e
      simp [hjn]
    · have h1 : j < k ↔ j < k + 1 := by omega
      simp [e, hjn, h1]
  · have : n ≤ j := by omega
    by_cases e : k = j
    · subst e; simp [hjn]
    · simp [this]
theorem addF_full (p q : List Int) (n : Nat) : rowZ (addF p q n) n = addK p q n := by
  unfold rowZ addF addK
  refine List.map_congr_left fun z hz => ?_
  rw [List.mem_range] at hz
  rw [if_pos hz]
theorem own_nil0 (w : World) (B : Nat) : w.ownsRow B 3 1 (.slice none 0 0) 0 [] := ⟨rfl, .inl ⟨rfl, rfl⟩⟩
theorem _root_.Go.World.ownsRow.shrink9 {w : World} {B C n : Nat} {v : Value} {xs : List Value} (h : w.ownsRow B 3 1 v n xs) (hc : C ≤ B) : w.ownsRow C 3 1 v n xs := by
  obtain ⟨h1, h2⟩ := h
  refine ⟨h1, ?_⟩
  rcases h2 with h2 | ⟨g, cap, cur, e, a1, rest⟩
  · exact .inl h2
  · exact .inr ⟨g, cap, cur, e, Nat.le_trans hc a1, rest⟩
set_option maxHeartbeats 2000000 in
theorem iAddC (w : World) (a b : Option Addr) (p q : List Int) (n m ca cb : Nat) (hn : n = p.length) (hm : n ≤ 9223372036854775807) (hn2 : m = q.length) (hm2 : m ≤ 9223372036854775807) (hi : Ints w a p) (hj : Ints w b q) :
    Calls Tryz.prog 32 #[.slice a n ca, .slice b m cb] w fun e w' => ∃ v, e = .returned v ∧ w'.ownsRow w.heap.size 3 1 v (addC p q).length ((addC p q).map (Value.int .i64)) ∧ Below w.heap.size w w' := by
  obtain ⟨i0, hi0, hz0, hz1, hz2⟩ := info_parts intInfo
  have HI := Lib.hid hi
  have HJ := Lib.hid hj
  have HN := Lib.hid hn
  have HM := Lib.hid hn2
  clear hi hj hn hn2
  cases hab : addB p q with
  | false =>
    have HAB := Lib.hid hab
    rw [show addC p q = [] by unfold addC; rw [if_neg (by simp [hab])]]
    clear hab
    go_enter Tryz.func32, Tryz.ntmps32
    go_wp2_with (go_at_call 60; refine (iAre _ _ _ p q _ _ _ _ HN.out hm HM.out hm2 HI.out HJ.out).mono ?_; rw [HAB.out]; rintro e w5 ⟨rfl, hb5⟩)
    go_ret
    exact ⟨_, rfl, own_nil0 _ _, hb5⟩
  | true =>
    have HAB := Lib.hid hab
    have hp : cntB p = true := by unfold addB at hab; exact (Bool.and_eq_true_iff.1 hab).1
    have hq : cntB q = true := by unfold addB at hab; exact (Bool.and_eq_true_iff.1 (Bool.and_eq_true_iff.1 hab).2).1
    have hl : n = m := by
      unfold addB at hab
      have := (Bool.and_eq_true_iff.1 (Bool.and_eq_true_iff.1 hab).2).2
      rw [beq_iff_eq] at this
      rw [HN.out, HM.out, this]
    subst hl
    have HRES : Hid (addC p q = rowZ (addF p q n) n) := Lib.hid (by unfold addC; rw [if_pos hab, ← HN.out, addF_full])
    rw [HRES.out, rowZ_len]
    obtain ⟨bp, n1, n24⟩ := cntB_yes hp
    obtain ⟨bq, _, _⟩ := cntB_yes hq
    have HBP := Lib.hid bp
    have HBQ := Lib.hid bq
    have hn24 : n ≤ 24 := by rw [HN.out]; exact n24
    have hn1 : 1 ≤ n := by rw [HN.out]; exact n1
    clear hab hp hq bp bq n24 n1
    go_enter Tryz.func32, Tryz.ntmps32
    go_wp2_with (first
      | (at_make; refine wpList_make_full _ rfl _ _ 24 rfl w4.heap.size 3 i0 (.int .i64 0) 1 Tryz.underlying24 hi0 hz0 hz1 .i64 .i64 _ _ n rfl rfl (by rfl) (by rfl) (by rw [hz2]; omega) (by unfold maxLen; omega) (Nat.le_refl _) ?_; intro w5 hown hgrow; have B5 := Lib.hid ((Below.refl _ _).grown hgrow (Nat.le_refl _) (fun q hq => by cases hq)); have O5 := Lib.hid hown; have L5 := Lib.hid hown.lt)
      | (go_at_call 60; refine (iAre _ _ _ p q _ _ _ _ HN.out hm HM.out hm2 HI.out HJ.out).mono ?_; rw [HAB.out]; rintro e w4 ⟨rfl, hb4⟩; have B4 := Lib.hid hb4; have HI := Lib.hid (HI.out.below rfl hb4); have HJ := Lib.hid (HJ.out.below rfl hb4); clear hb4))
    obtain ⟨g5, HGG⟩ : ∃ g5, Hid (w4.heap.size = g5) := ⟨_, Lib.hid rfl⟩
    have HG56 : Hid (g5 < w5.heap.size) := Lib.hid (by rw [← HGG.out]; exact (L5.out _ rfl).2)
    have HROW : Hid (w5.ownsRow w4.heap.size 3 1 (.slice (some ⟨w4.heap.size, 0, none⟩) n n) n (rowV (addF p q 0) n)) := Lib.hid (by
      have e : rowV (addF p q 0) n = (madeCells #[Value.int .i64 0] n).toList := by rw [← rowV_zero n]; rfl
      rw [e]
      have := O5.out
      rw [Nat.mul_one] at this
      exact this)
    rw [HGG.out] at HROW
    rw [HGG.out]
    go_loopw [16] (fun i wr => ∃ k : Nat, k ≤ n ∧ i = .int .i64 k ∧ wr.ownsRow g5 3 1 (.slice (some ⟨g5, 0, none⟩) n n) n (rowV (addF p q k) n) ∧ w5.grownBy wr (some g5)) (fun i _ => n - (intOf i).toNat)
    case atStart => exact ⟨0, Nat.zero_le _, rfl, HROW.out, World.grownBy.refl _ _⟩
    case round =>
      obtain ⟨k, hk, rfl, hri, hgi⟩ := hrel
      have HRI := Lib.hid hri
      have HGI := Lib.hid hgi
      by_cases hlt : k < n
      · have hkp : k < p.length := by rw [← HN.out]; exact hlt
        have hkq : k < q.length := by rw [← HM.out]; exact hlt
        rcases HI.out with h0 | ⟨ba, oa, ha, hbl, hc⟩
        · rw [h0] at hkp; simp at hkp
        · rcases HJ.out with h0 | ⟨bb, ob, hb2, hbl2, hc2⟩
          · rw [h0] at hkq; simp at hkq
          · subst ha hb2
            have HR1 := Lib.hid (keepC B5.out hbl (hc k hkp))
            have HR2 := Lib.hid (keepC B5.out hbl2 (hc2 k hkq))
            have HA1 : Hid (ba < w5.heap.size ∧ ba ≠ g5) := Lib.hid ⟨Nat.lt_of_lt_of_le hbl B5.out.size, by have := HGG.out; omega⟩
            have HB1 : Hid (bb < w5.heap.size ∧ bb ≠ g5) := Lib.hid ⟨Nat.lt_of_lt_of_le hbl2 B5.out.size, by have := HGG.out; omega⟩
            obtain ⟨x1, x2⟩ := HBP.out k hkp
            obtain ⟨y1, y2⟩ := HBQ.out k hkq
            have hrd := hri.drew
            have hfr := hrd.frozenAt k
            have hcell := (hrd.cellAt k (by omega)).trans (rowV_at (addF p q k) n k hlt)
            have hst := (hrd.stored k (.int .i64 (p.getD k 0 + q.getD k 0))).1
            rw [addF_set] at hst
            obtain ⟨x, hx⟩ : ∃ x, p.getD k 0 = x := ⟨_, rfl⟩
            obtain ⟨y, hy⟩ : ∃ y, q.getD k 0 = y := ⟨_, rfl⟩
            rw [hx, hy] at hst
            rw [hx] at HR1 x1 x2
            rw [hy] at HR2 y1 y2
            have HST := Lib.hid hst
            have hwa : IntKind.i64.wrap (x + y) = x + y := by rw [IntKind.wrap_i64]; omega
            have HGD := Lib.hid (grownG_trans hgi (below_grown (Below.refl _ _).drew (some g5)))
            have HGS := Lib.hid (grownG_set HGD.out k (.int .i64 (x + y)))
            have d1 := cell_grown7 HGD.out HA1.out.1 HA1.out.2 HR1.out
            have d2 := cell_grown7 HGD.out HB1.out.1 HB1.out.2 HR2.out
            obtain ⟨fz, HFZ⟩ : ∃ fz, Hid (addF p q k k = fz) := ⟨_, Lib.hid rfl⟩
            rw [HFZ.out] at hcell
            clear hgi hc hc2 hkp hkq hbl hbl2 hst hri hrd hx hy
            go_wp2
            go_region_with (fail)
            all_goals
              go_wp2
              go_roundw
              case rel => exact ⟨k + 1, by omega, by go_num, by first | exact HST.out | simpa using HST.out, HGS.out⟩
              case measure => simp [intOf]; omega
      · obtain rfl : k = n := by omega
        have hgg := HGG.out
        subst hgg
        go_wp2
        go_ret
        exact ⟨_, rfl, HRI.out.shrink9 B4.out.size, B4.out.trans ((B5.out.grown HGI.out B5.out.size (fun q hq => by cases hq; exact Nat.le_refl _)).mono B4.out.size)⟩
theorem prod_bnd9 {x y : Int} (x1 : -1000000000 ≤ x) (x2 : x ≤ 1000000000) (y1 : -1000 ≤ y) (y2 : y ≤ 1000) : -1000000000000 ≤ x * y ∧ x * y ≤ 1000000000000 := by
  have h : (x * y).natAbs ≤ 1000000000 * 1000 := by
    rw [Int.natAbs_mul]
    exact Nat.mul_le_mul (by omega) (by omega)
  omega
theorem mulI_bnd9 {p q : List Int} (hp : ∀ k, k < p.length → -1000000000 ≤ p.getD k 0 ∧ p.getD k 0 ≤ 1000000000) (hq : ∀ k, k < q.length → -1000 ≤ q.getD k 0 ∧ q.getD k 0 ≤ 1000) {N i : Nat} (hi : i < p.length) {f : Nat → Int} {B : Int} (hf : ∀ z, -B ≤ f z ∧ f z ≤ B) : ∀ k, k ≤ q.length → ∀ z, -(B + k * 1000000000000) ≤ mulI p q N i f k z ∧ mulI p q N i f k z ≤ B + k * 1000000000000
  | 0, _, z => by have := hf z; simp only [mulI]; omega
  | k + 1, hk, z => by
    have h := mulI_bnd9 hp hq (N := N) hi hf k (by omega) z
    have h2 := prod_bnd9 (hp i hi).1 (hp i hi).2 (hq k (by omega)).1 (hq k (by omega)).2
    simp only [mulI, mulS]
    split <;> omega
theorem mulO_bnd9 {p q : List Int} (hp : ∀ k, k < p.length → -1000000000 ≤ p.getD k 0 ∧ p.getD k 0 ≤ 1000000000) (hq : ∀ k, k < q.length → -1000 ≤ q.getD k 0 ∧ q.getD k 0 ≤ 1000) {N : Nat} (hN : N ≤ q.length) (h24 : N ≤ 24) : ∀ i, i ≤ p.length → ∀ z, -((i : Int) * 24000000000000) ≤ mulO p q N i z ∧ mulO p q N i z ≤ (i : Int) * 24000000000000
  | 0, _, z => by simp [mulO]
  | i + 1, hi, z => by
    have h := mulO_bnd9 hp hq hN h24 i (by omega)
    have := mulI_bnd9 hp hq (N := N) (show i < p.length by omega) h N hN z
    simp only [mulO]
    omega
theorem mulI_all9 {p q : List Int} (hp : ∀ k, k < p.length → -1000000000 ≤ p.getD k 0 ∧ p.getD k 0 ≤ 1000000000) (hq : ∀ k, k < q.length → -1000 ≤ q.getD k 0 ∧ q.getD k 0 ≤ 1000) {N : Nat} (hN : N = q.length) (hM : N = p.length) (h24 : N ≤ 24) (i k : Nat) (hi : i < N) (hk : k ≤ N) (z : Nat) : -1000000000000000 ≤ mulI p q N i (mulO p q N i) k z ∧ mulI p q N i (mulO p q N i) k z ≤ 1000000000000000 := by
  have h := mulO_bnd9 hp hq (N := N) (by omega) h24 i (by omega)
  have := mulI_bnd9 hp hq (N := N) (show i < p.length by omega) h k (by omega) z
  omega
set_option maxHeartbeats 2000000 in
theorem iCyc (w : World) (a b : Option Addr) (p q : List Int) (n ca cb : Nat) (hn : n = p.length) (hn2 : n = q.length) (hn1 : 1 ≤ n) (hn24 : n ≤ 24) (bp : ∀ k, k < p.length → -1000000000 ≤ p.getD k 0 ∧ p.getD k 0 ≤ 1000000000) (bq : ∀ k, k < q.length → -1000 ≤ q.getD k 0 ∧ q.getD k 0 ≤ 1000) (hi : Ints w a p) (hj : Ints w b q) :
    Calls Tryz.prog 62 #[.slice a n ca, .slice b n cb] w fun e w' => e = .returned (.slice (some ⟨w.heap.size, 0, none⟩) n n) ∧ w'.ownsRow w.heap.size 3 1 (.slice (some ⟨w.heap.size, 0, none⟩) n n) n (rowV (mulO p q n n) n) ∧ Below w.heap.size w w' := by
  obtain ⟨i0, hi0, hz0, hz1, hz2⟩ := info_parts intInfo
  have HI := Lib.hid hi
  have HJ := Lib.hid hj
  have HN := Lib.hid hn
  have HM := Lib.hid hn2
  have HBP := Lib.hid bp
  have HBQ := Lib.hid bq
  have HBD := Lib.hid (mulI_all9 bp bq HM.out HN.out hn24)
  clear hi hj hn hn2 bp bq
  go_enter Tryz.func62, Tryz.ntmps62
  go_wp2_with (at_make; refine wpList_make_full _ rfl _ _ 24 rfl w.heap.size 3 i0 (.int .i64 0) 1 Tryz.underlying24 hi0 hz0 hz1 .i64 .i64 _ _ n rfl rfl (by rfl) (by rfl) (by rw [hz2]; omega) (by unfold maxLen; omega) (Nat.le_refl _) ?_; intro w5 hown hgrow; have B5 := Lib.hid ((Below.refl _ _).grown hgrow (Nat.le_refl _) (fun q hq => by cases hq)); have O5 := Lib.hid hown; have L5 := Lib.hid hown.lt)
  obtain ⟨g5, HGG⟩ : ∃ g5, Hid (w.heap.size = g5) := ⟨_, Lib.hid rfl⟩
  have HG56 : Hid (g5 < w5.heap.size) := Lib.hid (by rw [← HGG.out]; exact (L5.out _ rfl).2)
  have HROW : Hid (w5.ownsRow w.heap.size 3 1 (.slice (some ⟨w.heap.size, 0, none⟩) n n) n (rowV (mulO p q n 0) n)) := Lib.hid (by
    have e : rowV (mulO p q n 0) n = (madeCells #[Value.int .i64 0] n).toList := rowV_zero n
    rw [e]
    have := O5.out
    rw [Nat.mul_one] at this
    exact this)
  rw [HGG.out] at HROW
  rw [HGG.out]
  go_loopw [15] (fun i wr => ∃ k : Nat, k ≤ n ∧ i = .int .i64 k ∧ wr.ownsRow g5 3 1 (.slice (some ⟨g5, 0, none⟩) n n) n (rowV (mulO p q n k) n) ∧ w5.grownBy wr (some g5)) (fun i _ => n - (intOf i).toNat)
  case atStart => exact ⟨0, Nat.zero_le _, rfl, HROW.out, World.grownBy.refl _ _⟩
  case round =>
    obtain ⟨k, hk, rfl, hr, hgr⟩ := hrel
    have HR := Lib.hid hr
    have HGR := Lib.hid hgr
    by_cases hlt : k < n
    · have hkp : k < p.length := by rw [← HN.out]; exact hlt
      rcases HI.out with h0 | ⟨ba, oa, ha, hbl, hc⟩
      · rw [h0] at hkp; simp at hkp
      · subst ha
        have r0 := cell_grown7 hgr (Nat.lt_of_lt_of_le hbl B5.out.size) (by have := HGG.out; omega) (keepC B5.out hbl (hc k hkp))
        obtain ⟨x1, x2⟩ := HBP.out k hkp
        have HX0 : Hid (∀ j, mulS p q n k j (mulI p q n k (mulO p q n k) j) = mulI p q n k (mulO p q n k) (j + 1)) := Lib.hid (fun j => rfl)
        have HNXT : Hid (mulI p q n k (mulO p q n k) n = mulO p q n (k + 1)) := Lib.hid rfl
        have HST0 : Hid (mulO p q n k = mulI p q n k (mulO p q n k) 0) := Lib.hid rfl
        have HBK : Hid (∀ j, j ≤ n → ∀ z, -1000000000000000 ≤ mulI p q n k (mulO p q n k) j z ∧ mulI p q n k (mulO p q n k) j z ≤ 1000000000000000) := Lib.hid (fun j hj z => HBD.out k j hlt hj z)
        unfold mulS at HX0
        obtain ⟨x, hx⟩ : ∃ x, p.getD k 0 = x := ⟨_, rfl⟩
        rw [hx] at r0 x1 x2 HX0
        clear hc hbl hx hkp hr hgr
        go_wp2
        go_loopw [22] (fun i wi => ∃ j : Nat, j ≤ n ∧ i = .int .i64 j ∧ wi.ownsRow g5 3 1 (.slice (some ⟨g5, 0, none⟩) n n) n (rowV (mulI p q n k (mulO p q n k) j) n) ∧ w5.grownBy wi (some g5)) (fun i _ => n - (intOf i).toNat)
        case atStart => exact ⟨0, Nat.zero_le _, rfl, by rw [← HST0.out]; exact HR.out, HGR.out⟩
        case round =>
          obtain ⟨j, hj, rfl, hri, hgi⟩ := hrel
          have HGI := Lib.hid hgi
          by_cases hjt : j < n
          · have hjq : j < q.length := by rw [← HM.out]; exact hjt
            rcases HJ.out with h0 | ⟨bb, ob, hb2, hbl2, hc2⟩
            · rw [h0] at hjq; simp at hjq
            · subst hb2
              have r2 := cell_grown7 hgi (Nat.lt_of_lt_of_le hbl2 B5.out.size) (by have := HGG.out; omega) (keepC B5.out hbl2 (hc2 j hjq))
              obtain ⟨y1, y2⟩ := HBQ.out j hjq
              have hx1 := HX0.out j
              obtain ⟨y, hy⟩ : ∃ y, q.getD j 0 = y := ⟨_, rfl⟩
              rw [hy] at r2 y1 y2 hx1
              obtain ⟨z, hz⟩ : ∃ z : Nat, (k + j) % n = z := ⟨_, rfl⟩
              have hzn : z < n := by rw [← hz]; exact Nat.mod_lt _ (by omega)
              have hZ : ((k : Int) + (j : Int)) % (n : Int) = (z : Int) := by rw [← hz]; simp
              have hnz : ((n : Int) = 0) = False := by simp; omega
              have hnz0 : ((n : Int) == 0) = false := by simp; omega
              have hnz1 : ¬ (n : Int) = 0 := by omega
              have hzi : (z : Int) < (n : Int) := by omega
              rw [hz] at hx1
              obtain ⟨f1, f2⟩ := HBK.out j hj z
              obtain ⟨G, HF⟩ : ∃ G, Hid (mulI p q n k (mulO p q n k) j = G) := ⟨_, Lib.hid rfl⟩
              rw [HF.out] at hx1 f1 f2 hri
              have HX1 := Lib.hid hx1
              obtain ⟨m1, m2⟩ := prod_bnd9 x1 x2 y1 y2
              have hfr := hri.frozenAt z
              have hcell := (hri.cellAt z (by omega)).trans (rowV_at G n z hzn)
              have hst := (hri.stored z (.int .i64 (G z + x * y))).1
              rw [rowV_set G n z hzn, HX1.out] at hst
              obtain ⟨fz, HFZ⟩ : ∃ fz, Hid (G z = fz) := ⟨_, Lib.hid rfl⟩
              rw [HFZ.out] at hcell hst f1 f2
              have HST := Lib.hid hst
              have HGS := Lib.hid (grownG_set hgi z (.int .i64 (fz + x * y)))
              clear hgi hc2 hbl2 hjq hy hst hx1 hri hz
              go_wp2
              go_roundw
              case rel => exact ⟨j + 1, by omega, by go_num, by first | exact HST.out | simpa using HST.out, HGS.out⟩
              case measure => simp [intOf]; omega
          · obtain rfl : j = n := by omega
            have HRI := Lib.hid hri
            clear hgi hri
            go_wp2
            go_roundw
            case rel => exact ⟨k + 1, by omega, by go_num, by rw [← HNXT.out]; exact HRI.out, HGI.out⟩
            case measure => simp [intOf]; omega
    · obtain rfl : k = n := by omega
      have hgg := HGG.out
      subst hgg
      clear hr hgr
      go_wp2
      go_ret
      exact ⟨rfl, HR.out, B5.out.grown HGR.out B5.out.size (fun q hq => by cases hq; exact Nat.le_refl _)⟩
set_option maxHeartbeats 2000000 in
theorem iMulC (w : World) (a b : Option Addr) (p q : List Int) (n m ca cb : Nat) (hn : n = p.length) (hm : n ≤ 9223372036854775807) (hn2 : m = q.length) (hm2 : m ≤ 9223372036854775807) (hi : Ints w a p) (hj : Ints w b q) :
    Calls Tryz.prog 34 #[.slice a n ca, .slice b m cb] w fun e w' => ∃ v, e = .returned v ∧ w'.ownsRow w.heap.size 3 1 v (mulC p q).length ((mulC p q).map (Value.int .i64)) ∧ Below w.heap.size w w' := by
  have HI := Lib.hid hi
  have HJ := Lib.hid hj
  have HN := Lib.hid hn
  have HM := Lib.hid hn2
  clear hi hj hn hn2
  cases hab : addB p q with
  | false =>
    have HAB := Lib.hid hab
    rw [show mulC p q = [] by unfold mulC; rw [if_neg (by simp [hab])]]
    clear hab
    go_enter Tryz.func34, Tryz.ntmps34
    go_wp2_with (go_at_call 60; refine (iAre _ _ _ p q _ _ _ _ HN.out hm HM.out hm2 HI.out HJ.out).mono ?_; rw [HAB.out]; rintro e w5 ⟨rfl, hb5⟩)
    go_ret
    exact ⟨_, rfl, own_nil0 _ _, hb5⟩
  | true =>
    have HAB := Lib.hid hab
    have hp : cntB p = true := by unfold addB at hab; exact (Bool.and_eq_true_iff.1 hab).1
    have hq : cntB q = true := by unfold addB at hab; exact (Bool.and_eq_true_iff.1 (Bool.and_eq_true_iff.1 hab).2).1
    have hl : n = m := by
      unfold addB at hab
      have := (Bool.and_eq_true_iff.1 (Bool.and_eq_true_iff.1 hab).2).2
      rw [beq_iff_eq] at this
      rw [HN.out, HM.out, this]
    subst hl
    have HRES : Hid (mulC p q = rowZ (mulO p q n n) n) := Lib.hid (by unfold mulC; rw [if_pos hab, ← HN.out])
    rw [HRES.out, rowZ_len]
    obtain ⟨bp, n1, n24⟩ := cntB_yes hp
    obtain ⟨bq, _, _⟩ := cntB_yes hq
    have HBP : Hid (∀ k, k < p.length → -1000000000 ≤ p.getD k 0 ∧ p.getD k 0 ≤ 1000000000) := Lib.hid (fun k hk => by have := bp k hk; omega)
    have HBQ := Lib.hid bq
    have HN24 : Hid (n ≤ 24) := Lib.hid (by rw [HN.out]; exact n24)
    have HN1 : Hid (1 ≤ n) := Lib.hid (by rw [HN.out]; exact n1)
    clear hab hp hq bp bq n24 n1
    go_enter Tryz.func34, Tryz.ntmps34
    go_wp2_with (first
      | (go_at_call 62; refine (iCyc _ _ _ p q _ _ _ HN.out HM.out HN1.out HN24.out HBP.out HBQ.out HI.out HJ.out).mono ?_; rintro e w5 ⟨rfl, ho5, hb5⟩; have O5 := Lib.hid ho5; have B5 := Lib.hid hb5; clear ho5 hb5)
      | (go_at_call 60; refine (iAre _ _ _ p q _ _ _ _ HN.out hm HM.out hm2 HI.out HJ.out).mono ?_; rw [HAB.out]; rintro e w4 ⟨rfl, hb4⟩; have B4 := Lib.hid hb4; have HI := Lib.hid (HI.out.below rfl hb4); have HJ := Lib.hid (HJ.out.below rfl hb4); clear hb4))
    go_ret
    exact ⟨_, rfl, O5.out.shrink9 B4.out.size, B4.out.trans (B5.out.mono B4.out.size)⟩
end Go.Proofs.YthlpjiibjlaebaaGreatDoor
