/- Merged: ChaPol ChaSpec2. -/
import Derived.Test.YthlpjiibjlaebaaGreatDoorMGAJ
import Derived.Test.YthlpjiibjlaebaaGreatDoorMGAC
import Derived.Test.YthlpjiibjlaebaaGreatDoorMGAA
import Derived.OwnWalk
import Derived.Deep.RegionWith
import Derived.Deep.RegionLaw
namespace Go.Proofs.YthlpjiibjlaebaaGreatDoor
/-- f times d, taken off behind the place i: the first k steps. -/
def subP7 (d : List Int) (i : Nat) (f : Int) (r : List Int) : Nat → List Int
  | 0 => r
  | k + 1 => (subP7 d i f r k).set (i + k) ((subP7 d i f r k).getD (i + k) 0 - f * d.getD k 0)
/-- The remainder after j rounds: the places go down. -/
def restR (p d : List Int) : Nat → List Int
  | 0 => p
  | j + 1 => subP7 d (p.length - d.length - j) ((restR p d j).getD (p.length - d.length - j + d.length - 1) 0) (restR p d j) d.length
/-- How many rounds there are. -/
def rounds7 (p d : List Int) : Nat := p.length + 1 - d.length
def restP (p d : List Int) : List Int := restR p d (rounds7 p d)
/-- The quotient's numbers after j rounds. -/
def quotR (p d : List Int) : Nat → List Int
  | 0 => List.replicate (rounds7 p d) 0
  | j + 1 => (quotR p d j).set (p.length - d.length - j) ((restR p d j).getD (p.length - d.length - j + d.length - 1) 0)
def quotP (p d : List Int) : List Int := quotR p d (rounds7 p d)
/-- The polynomial X to the n minus 1. -/
def xn1 (n : Nat) : List Int := ((List.replicate (n + 1) 0).set 0 (-1)).set n 1
/-- It, divided by the earlier ones whose numbers divide n, below k. -/
def cycK (C : Nat → List Int) (n : Nat) : Nat → List Int
  | 0 => xn1 n
  | k + 1 => if k = 0 then cycK C n k else if n % k = 0 then quotP (cycK C n k) (C k) else cycK C n k
def cycF : Nat → Nat → List Int
  | 0, _ => []
  | f + 1, n => cycK (cycF f) n n
/-- The cyclotomic polynomial of a number. -/
def cycL (n : Nat) : List Int := cycF (n + 1) n
/-- 1 at the multiples of g below e. -/
def sprL (g e : Nat) : List Int := (List.range e).map fun i => if i % g = 0 then 1 else 0
def allZ (r : List Int) : Bool := r.all fun x => x == 0
def polB : Bool := (List.range 25).all fun e => (List.range 25).all fun g => e == 0 || g == 0 || e % g != 0 || (allZ (restP (sprL g e) (cycL e)) == (g != e))
set_option maxRecDepth 100000 in
theorem pol_all : polB = true := by decide +kernel
theorem pol_spr {g e : Nat} (he : 0 < e) (h24 : e ≤ 24) (hg : 0 < g) (hd : e % g = 0) : allZ (restP (sprL g e) (cycL e)) = (g != e) := by
  have hge : g ≤ e := Nat.le_of_dvd he (Nat.dvd_of_mod_eq_zero hd)
  have h := List.all_eq_true.1 (List.all_eq_true.1 pol_all e (List.mem_range.2 (by omega))) g (List.mem_range.2 (by omega))
  have h1 : (e == 0) = false := by simp; omega
  have h2 : (g == 0) = false := by simp; omega
  have h3 : (e % g != 0) = false := by rw [hd]; rfl
  rw [h1, h2, h3, Bool.false_or, Bool.false_or, Bool.false_or, beq_iff_eq] at h
  exact h
theorem getD_smul (c : Int) (r : List Int) (j : Nat) : (r.map fun x => c * x).getD j 0 = c * r.getD j 0 := by
  by_cases h : j < r.length
  · simp [List.getD, h]
  · simp [List.getD, h]
theorem subP7_smul (c : Int) (d : List Int) (i : Nat) (f : Int) (r : List Int) : ∀ k, subP7 d i (c * f) (r.map fun x => c * x) k = (subP7 d i f r k).map fun x => c * x
  | 0 => rfl
  | k + 1 => by
    unfold subP7
    rw [subP7_smul c d i f r k, getD_smul, List.map_set]
    congr 1
    rw [Int.mul_sub, Int.mul_assoc]
theorem restR_smul (c : Int) (p d : List Int) : ∀ j, restR (p.map fun x => c * x) d j = (restR p d j).map fun x => c * x
  | 0 => rfl
  | j + 1 => by
    unfold restR
    rw [restR_smul c p d j, List.length_map, getD_smul, subP7_smul]
theorem restP_smul (c : Int) (p d : List Int) : restP (p.map fun x => c * x) d = (restP p d).map fun x => c * x := by
  unfold restP rounds7
  rw [List.length_map, restR_smul]
theorem allZ_smul {c : Int} (hc : c ≠ 0) (r : List Int) : allZ (r.map fun x => c * x) = allZ r := by
  unfold allZ
  rw [List.all_map]
  congr 1
  funext x
  show (c * x == 0) = (x == 0)
  by_cases h : x = 0
  · subst h; simp
  · have h1 : (x == 0) = false := by simpa using h
    rw [h1]
    simp [hc, h]
/-- An even spread of c at the multiples of g: its remainder is 0 just if it is no single place. -/
theorem pol_even {g e : Nat} {c : Int} (he : 0 < e) (h24 : e ≤ 24) (hg : 0 < g) (hd : e % g = 0) (hc : c ≠ 0) : allZ (restP ((sprL g e).map fun x => c * x) (cycL e)) = (g != e) := by
  rw [restP_smul, allZ_smul hc, pol_spr he h24 hg hd]
end Go.Proofs.YthlpjiibjlaebaaGreatDoor

namespace Go.Proofs.YthlpjiibjlaebaaGreatDoor
open Go.RowKit
set_option maxRecDepth 1000000
def cntOk (x : Int) : Bool := decide (-1000 ≤ x) && decide (x ≤ 1000)
def cntB (p : List Int) : Bool := (p.all fun x => cntOk x) && (decide (1 ≤ (p.length : Int)) && decide ((p.length : Int) ≤ 24))
theorem cntB_no {p : List Int} {k : Nat} (hk : k < p.length) (h : cntOk (p.getD k 0) = false) : cntB p = false := by
  have : (p.all fun x => cntOk x) = false := by
    rw [List.all_eq_false]
    exact ⟨p.getD k 0, by simp [List.getD, hk], by rw [h]; simp⟩
  unfold cntB
  rw [this]
  rfl
theorem cntB_all {p : List Int} (h : ∀ k, k < p.length → cntOk (p.getD k 0) = true) : cntB p = (decide (1 ≤ (p.length : Int)) && decide ((p.length : Int) ≤ 24)) := by
  have : (p.all fun x => cntOk x) = true := by
    rw [List.all_eq_true]
    intro x hx
    obtain ⟨k, hk, rfl⟩ := List.getElem_of_mem hx
    have := h k hk
    simpa [List.getD, hk] using this
  unfold cntB
  rw [this]
  rfl
theorem cntB_yes {p : List Int} (h : cntB p = true) : (∀ k, k < p.length → -1000 ≤ p.getD k 0 ∧ p.getD k 0 ≤ 1000) ∧ 1 ≤ p.length ∧ p.length ≤ 24 := by
  unfold cntB at h
  simp only [Bool.and_eq_true, decide_eq_true_eq, List.all_eq_true] at h
  refine ⟨fun k hk => ?_, by omega, by omega⟩
  have h1 := h.1 (p.getD k 0) (by simp [List.getD, hk])
  unfold cntOk at h1
  simpa using h1
set_option maxHeartbeats 1000000 in
theorem sCnts (w : World) (a : Option Addr) (p : List Int) (n cap : Nat) (hn : n = p.length) (hm : n ≤ 9223372036854775807) (hi : Ints w a p) :
    Calls Tryz.prog 61 #[.slice a n cap] w fun e w' => e = .returned (.bool (cntB p)) ∧ w = w' := by
  have HI := Lib.hid hi
  have HN := Lib.hid hn
  have HNO := Lib.hid (fun k (hk : k < p.length) h => cntB_no hk h)
  have HAL := Lib.hid (fun h => cntB_all (p := p) h)
  obtain ⟨r, hr⟩ : ∃ r, cntB p = r := ⟨_, rfl⟩
  rw [hr] at HNO HAL
  rw [hr]
  clear hi hn hr
  go_enter Tryz.func61, Tryz.ntmps61
  go_wp2
  go_loopw [3] (fun i wr => ∃ k : Nat, k ≤ n ∧ i = .int .i64 k ∧ Hid (∀ j, j < k → cntOk (p.getD j 0) = true) ∧ w = wr) (fun i _ => n - (intOf i).toNat)
  case atStart => exact ⟨0, Nat.zero_le _, rfl, Lib.hid (fun j hj => absurd hj (by omega)), rfl⟩
  case round =>
    obtain ⟨k, hk, rfl, HOK, rfl⟩ := hrel
    by_cases hlt : k < n
    · have hkl : k < p.length := by rw [← HN.out]; exact hlt
      rcases HI.out with h0 | ⟨b, off, ha, hbl, hc⟩
      · rw [h0] at hkl; simp at hkl
      · subst ha
        have r1 := hc k hkl
        have HNK := Lib.hid (HNO.out k hkl)
        have HNX : Hid (cntOk (p.getD k 0) = true → ∀ j, j < k + 1 → cntOk (p.getD j 0) = true) := Lib.hid (fun h j hj => by
          by_cases hjk : j < k
          · exact HOK.out j hjk
          · obtain rfl : j = k := by omega
            exact h)
        obtain ⟨x, hx⟩ : ∃ x, p.getD k 0 = x := ⟨_, rfl⟩
        rw [hx] at r1 HNK HNX
        clear hc hkl hbl hx
        cases hok : cntOk x with
        | true =>
          have HE : Hid (true = (decide (-1000 ≤ x) && decide (x ≤ 1000))) := Lib.hid hok.symm
          have HN2 := Lib.hid (HNX.out hok)
          clear hok HNK HNX
          go_wp2_with (go_at_call 70; refine (sIn _ _ _ _ _ HE.out).mono ?_; rintro e w5 ⟨rfl, rfl⟩)
          go_roundw
          case rel => exact ⟨k + 1, by omega, by go_num, HN2, by first | trivial | rfl⟩
          case measure => simp [intOf]; omega
        | false =>
          have HE : Hid (false = (decide (-1000 ≤ x) && decide (x ≤ 1000))) := Lib.hid hok.symm
          have hrr := HNK.out hok
          subst hrr
          clear hok HNK HNX
          go_wp2_with (go_at_call 70; refine (sIn _ _ _ _ _ HE.out).mono ?_; rintro e w5 ⟨rfl, rfl⟩)
          go_ret
          exact ⟨rfl, rfl⟩
    · obtain rfl : k = n := by omega
      have HE : Hid (r = (decide (1 ≤ (k : Int)) && decide ((k : Int) ≤ 24))) := Lib.hid (by rw [HN.out]; exact HAL.out (fun j hj => HOK.out j (by rw [HN.out]; exact hj)))
      go_wp2_with (go_at_call 70; refine (sIn _ _ _ _ _ HE.out).mono ?_; rintro e w5 ⟨rfl, rfl⟩)
      go_ret
      exact ⟨rfl, rfl⟩
/-- The sums of the first k numbers. -/
def addK (p q : List Int) (k : Nat) : List Int := (List.range k).map fun i => p.getD i 0 + q.getD i 0
theorem addK_len (p q : List Int) (k : Nat) : (addK p q k).length = k := by simp [addK]
theorem addK_next (p q : List Int) (k : Nat) : addK p q (k + 1) = addK p q k ++ [p.getD k 0 + q.getD k 0] := by simp [addK, List.range_succ]
def addB (p q : List Int) : Bool := cntB p && (cntB q && p.length == q.length)
def addC (p q : List Int) : List Int := if addB p q = true then addK p q p.length else []
theorem news1 (w : World) (x : Value) (T : TypeId) : ∀ (j : Nat) (u : Value), [x][j]? = some u → (w.alloc (.cells #[x] T)).cell? ((⟨w.heap.size, 0, none⟩ : Addr).add j) = some u := fun j u hu => by
  match j, hu with
  | 0, hu =>
    simp at hu
    subst hu
    simp [Addr.add]
set_option maxHeartbeats 2000000 in
theorem sAddC (w : World) (a b : Option Addr) (p q : List Int) (n m ca cb : Nat) (hn : n = p.length) (hm : n ≤ 9223372036854775807) (hn2 : m = q.length) (hm2 : m ≤ 9223372036854775807) (hi : Ints w a p) (hj : Ints w b q) :
    Calls Tryz.prog 33 #[.slice a n ca, .slice b m cb] w fun e w' => ∃ v, e = .returned v ∧ w'.ownsRow w.heap.size 3 1 v (addC p q).length ((addC p q).map (Value.int .i64)) ∧ Below w.heap.size w w' := by
  obtain ⟨i0, hi0, hz0, hz1, hz2⟩ := info_parts intInfo
  have HI := Lib.hid hi
  have HJ := Lib.hid hj
  have HN := Lib.hid hn
  have HM := Lib.hid hn2
  have HB := Lib.hid (Joins.below_alloc1 w (.cells #[] 3))
  have O0 := Lib.hid (show (w.alloc (.cells #[] 3)).ownsRow w.heap.size 3 1 (.slice (some ⟨w.heap.size, 0, none⟩) 0 0) 0 [] from World.ownsRow_lit (base := w.heap.size) (e := 3) (size := 1) w #[] 0 (by simp) (by simp [maxLen]) rfl)
  clear hi hj hn hn2
  cases hab : addB p q with
  | false =>
    rw [show addC p q = [] by unfold addC; rw [if_neg (by simp [hab])]]
    by_cases h0 : n = 0
    · subst h0
      clear hab
      go_enter Tryz.func33, Tryz.ntmps33
      go_wp2
      refine wp_loop_rounds 1 ?_
      rw [rounds_succ]
      go_wp2
      go_ret
      exact ⟨_, rfl, O0.out, HB.out⟩
    · have hn0 : 0 < n := by omega
      cases hp : cntB p with
      | false =>
        have HP := Lib.hid hp
        clear hab hp
        go_enter Tryz.func33, Tryz.ntmps33
        go_wp2
        refine wp_loop_rounds 1 ?_
        rw [rounds_succ]
        go_wp2_with (go_at_call 61; refine (sCnts _ _ p _ _ HN.out hm (HI.out.below rfl HB.out)).mono ?_; rw [HP.out]; rintro e w5 ⟨rfl, rfl⟩)
        go_ret
        exact ⟨_, rfl, O0.out, HB.out⟩
      | true =>
        have HP := Lib.hid hp
        cases hq : cntB q with
        | false =>
          have HQ := Lib.hid hq
          clear hab hp hq
          go_enter Tryz.func33, Tryz.ntmps33
          go_wp2
          refine wp_loop_rounds 1 ?_
          rw [rounds_succ]
          go_wp2_with (first
            | (go_at_call 61; have hx_ := F5; clear hx_; refine (sCnts _ _ q _ _ HM.out hm2 (HJ.out.below rfl HB.out)).mono ?_; rw [HQ.out]; rintro e w6 ⟨rfl, rfl⟩)
            | (go_at_call 61; refine (sCnts _ _ p _ _ HN.out hm (HI.out.below rfl HB.out)).mono ?_; rw [HP.out]; rintro e w5 ⟨rfl, rfl⟩; have F5 := trivial))
          go_ret
          exact ⟨_, rfl, O0.out, HB.out⟩
        | true =>
          have HQ := Lib.hid hq
          have hnm : n ≠ m := fun e => by
            unfold addB at hab
            rw [hp, hq, Bool.true_and, Bool.true_and] at hab
            rw [HN.out, HM.out] at e
            rw [e] at hab
            simp at hab
          have hne : ((n : Int) == (m : Int)) = false := by
            have : (n : Int) ≠ (m : Int) := by omega
            simpa using this
          clear hab hp hq
          go_enter Tryz.func33, Tryz.ntmps33
          go_wp2
          refine wp_loop_rounds 1 ?_
          rw [rounds_succ]
          go_wp2_with (first
            | (go_at_call 61; have hx_ := F5; clear hx_; refine (sCnts _ _ q _ _ HM.out hm2 (HJ.out.below rfl HB.out)).mono ?_; rw [HQ.out]; rintro e w6 ⟨rfl, rfl⟩)
            | (go_at_call 61; refine (sCnts _ _ p _ _ HN.out hm (HI.out.below rfl HB.out)).mono ?_; rw [HP.out]; rintro e w5 ⟨rfl, rfl⟩; have F5 := trivial))
          go_ret
          exact ⟨_, rfl, O0.out, HB.out⟩
  | true =>
    rw [show addC p q = addK p q n by unfold addC; rw [if_pos hab, HN.out], addK_len]
    have hp : cntB p = true := by unfold addB at hab; exact (Bool.and_eq_true_iff.1 hab).1
    have hq : cntB q = true := by unfold addB at hab; exact (Bool.and_eq_true_iff.1 (Bool.and_eq_true_iff.1 hab).2).1
    have hl : n = m := by
      unfold addB at hab
      have := (Bool.and_eq_true_iff.1 (Bool.and_eq_true_iff.1 hab).2).2
      rw [beq_iff_eq] at this
      rw [HN.out, HM.out, this]
    subst hl
    obtain ⟨bp, _, n24⟩ := cntB_yes hp
    obtain ⟨bq, _, _⟩ := cntB_yes hq
    have HP := Lib.hid hp
    have HQ := Lib.hid hq
    have HBP := Lib.hid bp
    have HBQ := Lib.hid bq
    have hn24 : n ≤ 24 := by rw [HN.out]; exact n24
    clear hab hp hq bp bq n24
    go_enter Tryz.func33, Tryz.ntmps33
    go_wp2
    go_loopw [5, 6] (fun v i wr => ∃ k : Nat, k ≤ n ∧ i = .int .i64 k ∧ wr.ownsRow w.heap.size 3 1 v k ((addK p q k).map (Value.int .i64)) ∧ Below w.heap.size w wr) (fun _ i _ => n - (intOf i).toNat)
    case atStart => exact ⟨0, Nat.zero_le _, rfl, O0.out, HB.out⟩
    case round =>
      obtain ⟨k, hk, rfl, hown, hbel⟩ := hrel
      have HOW := Lib.hid hown
      have HBL := Lib.hid hbel
      have hsz := hbel.size
      have HIr := Lib.hid (HI.out.below rfl hbel)
      have HJr := Lib.hid (HJ.out.below rfl hbel)
      by_cases hlt : k < n
      · have hkp : k < p.length := by rw [← HN.out]; exact hlt
        have hkq : k < q.length := by rw [← HM.out]; exact hlt
        rcases HI.out with h0 | ⟨ba, oa, ha, hbl, hc⟩
        · rw [h0] at hkp; simp at hkp
        · rcases HJ.out with h0 | ⟨bb, ob, hb2, hbl2, hc2⟩
          · rw [h0] at hkq; simp at hkq
          · subst ha hb2
            have r1 := keepC hbel hbl (hc k hkp)
            have r2 := keepC hbel hbl2 (hc2 k hkq)
            obtain ⟨x1, x2⟩ := HBP.out k hkp
            obtain ⟨y1, y2⟩ := HBQ.out k hkq
            have HNX := Lib.hid (addK_next p q k)
            obtain ⟨x, hx⟩ : ∃ x, p.getD k 0 = x := ⟨_, rfl⟩
            obtain ⟨y, hy⟩ : ∃ y, q.getD k 0 = y := ⟨_, rfl⟩
            rw [hx] at r1 x1 x2 HNX
            rw [hy] at r2 y1 y2 HNX
            clear hx hy hc hc2 hkp hkq hbl hbl2 hown
            have hwr : IntKind.i64.wrap (x + y) = x + y := by rw [IntKind.wrap_i64]; omega
            go_wp2_with (first
              | (go_at_call 61; have hx_ := F5; clear hx_; refine (sCnts _ _ q _ _ HM.out hm2 HJr.out).mono ?_; rw [HQ.out]; rintro e w6 ⟨rfl, rfl⟩)
              | (go_at_call 61; refine (sCnts _ _ p _ _ HN.out hm HIr.out).mono ?_; rw [HP.out]; rintro e w5 ⟨rfl, rfl⟩; have F5 := trivial))
            go_region_law (first | (refine step_append_own rfl (.tmp 29) (.tmp 39) 24 rfl w.heap.size 3 i0 (.int .i64 0) 1 8 Tryz.underlying24 hi0 hz0 hz1 hz2 rfl (by decide) u5 k ((addK p q k).map (Value.int .i64)) (by simp [Act.eval]) (HOW.out.drew.alloc _) ⟨wr.heap.size, 0, none⟩ 1 1 [.int .i64 (x + y)] (by simp [Act.eval]) rfl (news1 wr.drew _ _) (fun u hu => by simp at hu; subst hu; rfl) (by unfold maxLen; omega) (by omega) (by simp; omega) ?_; intro v' w1 hown' hgrow) | (refine step_append_own rfl (.tmp 29) (.tmp 39) 24 rfl w.heap.size 3 i0 (.int .i64 0) 1 8 Tryz.underlying24 hi0 hz0 hz1 hz2 rfl (by decide) u5 k ((addK p q k).map (Value.int .i64)) (by simp [Act.eval]) (HOW.out.drew.alloc _) ⟨wr.heap.size, 0, none⟩ 1 1 [.int .i64 (IntKind.i64.wrap (x + y))] (by simp [Act.eval]) rfl (news1 wr.drew _ _) (fun u hu => by simp at hu; subst hu; rfl) (by unfold maxLen; omega) (by omega) (by simp; omega) ?_; intro v' w1 hown' hgrow; rw [hwr] at hown'))
            all_goals
              have hown3 : w1.ownsRow w.heap.size 3 1 v' (k + 1) ((addK p q (k + 1)).map (Value.int .i64)) := by
                rw [HNX.out]; simpa using hown'
              have hbel3 : Below w.heap.size w w1 := (HBL.out.drew.alloc (by have := HBL.out.size; simp; omega) _).grown hgrow (by have := HBL.out.size; simp; omega) (fun g hg => (HOW.out.lt g hg).1)
              clear hown' hgrow
              go_wp2
              go_roundw
              case rel => exact ⟨k + 1, by omega, by go_num, hown3, hbel3⟩
              case measure => simp [intOf]; omega
      · obtain rfl : k = n := by omega
        clear hown hbel
        go_wp2
        go_ret
        exact ⟨_, rfl, HOW.out, HBL.out⟩
end Go.Proofs.YthlpjiibjlaebaaGreatDoor
