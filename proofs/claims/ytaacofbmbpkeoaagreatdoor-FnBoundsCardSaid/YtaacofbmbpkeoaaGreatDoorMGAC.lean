/- Merged: GrpSpec3 GrpSpec4 GrpSpec5 GrpSpec6 GrpImpl GrpIs OwnP. -/
import Derived.Test.YtaacofbmbpkeoaaGreatDoorGrpMath2
import Derived.Deep.QuietTactic
import Derived.Laws.CopyOwn
import Derived.Laws.ResultCell
namespace Go.Proofs.YtaacofbmbpkeoaaGreatDoor
open Go.RowKit
set_option maxRecDepth 1000000
/-- Whether x is an element. -/
def isE (l : List Int) (x : Int) : Bool := decide (0 ≤ x) && decide (x < ordN l)
theorem isE_true {l : List Int} {x : Int} (h : isE l x = true) : grpB l = true ∧ 0 ≤ x ∧ x < prodI l ∧ x ≤ 23 := by
  simp only [isE, Bool.and_eq_true, decide_eq_true_eq] at h
  cases hg : grpB l with
  | false => rw [ordN_no hg] at h; omega
  | true =>
    rw [ordN_grp hg] at h
    have := (grpB_true hg).2.2
    exact ⟨rfl, h.1, h.2, by omega⟩
/-- The document's sum. -/
def addE (l : List Int) (x y : Int) : Int := if isE l x = true then (if isE l y = true then addN l x y else -1) else -1
end Go.Proofs.YtaacofbmbpkeoaaGreatDoor

namespace Go.Proofs.YtaacofbmbpkeoaaGreatDoor
open Go.RowKit
set_option maxRecDepth 1000000
/-- A place of the negative. -/
def ndig (l : List Int) (x : Int) (k : Nat) : Int := -(x / PK l k % l.getD k 0) % l.getD k 0
theorem ndig_bnd {l : List Int} (h : Ords l) (x : Int) {k : Nat} (hk : k < l.length) : 0 ≤ ndig l x k ∧ ndig l x k < l.getD k 0 := by
  have := h.pos k hk
  exact ⟨Int.emod_nonneg _ (by omega), Int.emod_lt_of_pos _ (by omega)⟩
theorem ndig_neg (l : List Int) (x : Int) : valK l (ndig l x) l.length = negN l x := by
  unfold negN mulN
  apply val_congr
  intro j _
  unfold ndig mulF
  rw [← neg_place, Int.sub_eq_add_neg, Int.add_comm, Int.add_emod_right]; rfl
def negE (l : List Int) (x : Int) : Int := if isE l x = true then negN l x else -1
/-- The document's multiple. -/
def mulE (l : List Int) (x k : Int) : Int := if isE l x = true then (if -100 ≤ k ∧ k ≤ 100 then mulN l x k else -1) else -1
end Go.Proofs.YtaacofbmbpkeoaaGreatDoor

namespace Go.Proofs.YtaacofbmbpkeoaaGreatDoor
open Go.RowKit
set_option maxRecDepth 1000000
theorem sOrd_no (w : World) (a : Option Addr) (l : List Int) (n cap : Nat) (x : Int) (hn : n = l.length) (hm : n ≤ 9223372036854775807) (hi : Ints w a l) (hx : isE l x = false) :
    Calls Tryz.prog 70 #[.agg #[.slice a n cap], .int .i64 x] w fun e w' => e = .returned (.int .i64 0) ∧ Below w.heap.size w w' := by
  have HI := Lib.hid (ints_alloc hi (.cells #[.slice a n cap] 26))
  have HN := Lib.hid hn
  have C1 := newC w (.slice a n cap) 26 (n := w.heap.size) rfl
  have HB := Lib.hid (Joins.below_alloc1 w (.cells #[.slice a n cap] 26))
  have HX : Hid (false = isE l x) := Lib.hid hx.symm
  clear hi hn hx
  go_enter Tryz.func70, Tryz.ntmps70
  go_wp2_with (go_at_call 95; refine (sIs _ _ _ _ _ _ _ HX.out HN.out hm HI.out).mono ?_; rintro e w1 ⟨rfl, hb1⟩; have c1 := keepC hb1 (by simp) C1)
  go_ret
  exact ⟨rfl, HB.out.trans (hb1.mono (by simp))⟩
set_option maxHeartbeats 1000000 in
theorem sOrd_yes (w : World) (a : Option Addr) (l : List Int) (n cap : Nat) (x : Int) (m : Nat) (hn : n = l.length) (hm : n ≤ 9223372036854775807) (hi : Ints w a l) (hx : isE l x = true) (ho : IsOrd l x m) :
    Calls Tryz.prog 70 #[.agg #[.slice a n cap], .int .i64 x] w fun e w' => e = .returned (.int .i64 m) ∧ Below w.heap.size w w' := by
  have HI := Lib.hid (ints_alloc hi (.cells #[.slice a n cap] 26))
  have HN := Lib.hid hn
  have C1 := newC w (.slice a n cap) 26 (n := w.heap.size) rfl
  have HB := Lib.hid (Joins.below_alloc1 w (.cells #[.slice a n cap] 26))
  have T0 := Lib.hid (Below.refl (w.alloc (.cells #[.slice a n cap] 26)).heap.size (w.alloc (.cells #[.slice a n cap] 26)))
  have HX : Hid (true = isE l x) := Lib.hid hx.symm
  have BX := Lib.hid (isE_true hx)
  have OR := Lib.hid (ords_grp BX.out.1)
  have P24 := Lib.hid OR.out.prod
  have HO := Lib.hid ho
  have hm24 := ho.2.1
  clear hi hn hx ho
  go_enter Tryz.func70, Tryz.ntmps70
  go_wp2_with (go_at_call 95; refine (sIs _ _ _ _ _ _ _ HX.out HN.out hm HI.out).mono ?_; rintro e w1 ⟨rfl, hb1⟩; have T1 := Lib.hid (T0.out.trans (hb1.mono T0.out.size)); have c1 := keepC T1.out (by simp) C1)
  go_loopw [5, 6] (fun i z wr => ∃ j : Nat, 1 ≤ j ∧ j ≤ m ∧ i = .int .i64 j ∧ z = .int .i64 (mulN l x j) ∧ Below (w.heap.size + 1) (w.alloc (.cells #[.slice a n cap] 26)) wr) (fun i _ _ => m - (intOf i).toNat)
  case atStart => exact ⟨1, Nat.le_refl _, HO.out.1, rfl, by rw [show ((1 : Nat) : Int) = 1 from rfl, mulN_one OR.out BX.out.2.1 BX.out.2.2.1], by simpa using T1.out⟩
  case round =>
    obtain ⟨j, hj1, hj, rfl, rfl, hbel⟩ := hrel
    have c4 := keepC hbel (by simp) C1
    have hx0 := BX.out.2.1
    have hx1 := BX.out.2.2.2
    by_cases hlt : j < m
    · have hz : (mulN l x j != 0) = true := by simpa using HO.out.2.2.2 j hj1 hlt
      have MB := Lib.hid (mulN_bnd OR.out x j)
      have HS := Lib.hid (mulN_succ OR.out x j)
      have hz0 := MB.out.1
      have hz1 : mulN l x j ≤ 23 := by have := MB.out.2; have := P24.out.2; omega
      generalize mulN l x j = z at *
      go_wp2_with (go_at_call 46; refine (sAdd _ _ _ _ _ _ _ hz0 hz1 hx0 hx1 HN.out BX.out.1 (HI.out.below (by simp) hbel)).mono ?_; rintro e w5 ⟨rfl, hb5⟩)
      go_roundw
      case rel => exact ⟨j + 1, by omega, by omega, by go_num, by rw [HS.out]; rfl, hbel.trans (hb5.mono (by have := hbel.size; simpa using this))⟩
      case measure => simp [intOf]; omega
    · obtain rfl : j = m := by omega
      have hz : (mulN l x j != 0) = false := by simpa using HO.out.2.2.1
      generalize mulN l x j = z at *
      go_wp2
      go_ret
      exact ⟨rfl, HB.out.trans (hbel.mono (by omega))⟩
theorem lcm_yes {E c q : Int} (hE : 1 ≤ E) (hc : 1 ≤ c) (hd : E ∣ q) (hq : 1 ≤ q) (hL : q ≤ (E.lcm c : Nat)) (h : q % c = 0) : q = (E.lcm c : Nat) := by
  obtain ⟨e, rfl⟩ : ∃ n : Nat, E = n := ⟨E.toNat, by omega⟩
  obtain ⟨d, rfl⟩ : ∃ n : Nat, c = n := ⟨c.toNat, by omega⟩
  obtain ⟨p, rfl⟩ : ∃ n : Nat, q = n := ⟨q.toNat, by omega⟩
  have h1 : e ∣ p := Int.natCast_dvd_natCast.1 hd
  have h2 : d ∣ p := Int.natCast_dvd_natCast.1 (Int.dvd_of_emod_eq_zero h)
  have h3 : Nat.lcm e d ∣ p := Nat.lcm_dvd h1 h2
  have h4 := Nat.le_of_dvd (by omega) h3
  have h5 : ((e : Int).lcm (d : Int)) = Nat.lcm e d := rfl
  rw [h5] at hL ⊢
  omega
theorem lcm_no {E c q : Int} (hE : 1 ≤ E) (hc : 1 ≤ c) (hd : E ∣ q) (hq : 1 ≤ q) (hL : q ≤ (E.lcm c : Nat)) (h : q % c ≠ 0) : E ∣ q + E ∧ q + E ≤ (E.lcm c : Nat) := by
  refine ⟨Int.dvd_add hd (Int.dvd_refl _), ?_⟩
  obtain ⟨e, rfl⟩ : ∃ n : Nat, E = n := ⟨E.toNat, by omega⟩
  obtain ⟨d, rfl⟩ : ∃ n : Nat, c = n := ⟨c.toNat, by omega⟩
  obtain ⟨p, rfl⟩ : ∃ n : Nat, q = n := ⟨q.toNat, by omega⟩
  have h5 : ((e : Int).lcm (d : Int)) = Nat.lcm e d := rfl
  rw [h5] at hL ⊢
  have h1 : e ∣ p := Int.natCast_dvd_natCast.1 hd
  have h6 : p ≠ Nat.lcm e d := by
    intro e1
    have : d ∣ p := by rw [e1]; exact Nat.dvd_lcm_right _ _
    exact h (Int.emod_eq_zero_of_dvd (Int.natCast_dvd_natCast.2 this))
  have h7 : e ∣ Nat.lcm e d - p := Nat.dvd_sub (Nat.dvd_lcm_left _ _) h1
  have h8 := Nat.le_of_dvd (by omega) h7
  omega
def expE (l : List Int) : Int := if grpB l = true then lcmK l l.length else 0
end Go.Proofs.YtaacofbmbpkeoaaGreatDoor

namespace Go.Proofs.YtaacofbmbpkeoaaGreatDoor
open Go.RowKit
set_option maxRecDepth 1000000
theorem below_grown {w w' : World} (h : Below w.heap.size w w') (row : Option Nat) : w.grownBy w' row := ⟨h.os, h.tape, h.output, h.size, fun k hk _ => h.block k hk⟩
theorem owns_below {w w' : World} {B n : Nat} {e : TypeId} {v : Value} {xs : List Value} (h : w.ownsRow B e 1 v n xs) (hb : Below w.heap.size w w') : w'.ownsRow B e 1 v n xs :=
  h.kept (below_grown hb none) (by cases hv : v.ownBlock with
    | none => exact .inl rfl
    | some g => exact .inr (by simp))
/-- The places of an element. -/
def plc (l : List Int) (x : Int) : List Int := if isE l x = true then (List.range l.length).map (dig l x) else []
theorem isE_quo {l : List Int} {x : Int} (h : isE l x = true) {k : Nat} (hk : k ≤ l.length) : isE l (x / PK l k) = true := by
  obtain ⟨hg, h0, h1, h2⟩ := isE_true h
  obtain ⟨p1, p2⟩ := PK_grp hg k hk
  obtain ⟨q1, q2⟩ := quo_bnd h0 p1
  have e := ordN_grp hg
  simp only [isE, Bool.and_eq_true, decide_eq_true_eq]
  omega
/-- Places that are those of an element. -/
def ElemP (l p : List Int) : Prop := grpB l = true ∧ p.length = l.length ∧ ∀ j, j < l.length → 0 ≤ p.getD j 0 ∧ p.getD j 0 < l.getD j 0
instance (l p : List Int) : Decidable (ElemP l p) := by unfold ElemP; infer_instance
def elemV (l p : List Int) : Int := if ElemP l p then valK l (fun j => p.getD j 0) l.length else 0
theorem horner_bnd {x c p M : Int} (hx : 0 ≤ x) (hM : x + 1 ≤ M) (hp : 0 ≤ p) (hpc : p < c) (hc : c ≤ 24) : 0 ≤ x * c ∧ 0 ≤ x * c + p ∧ x * c + p + 1 ≤ M * 24 := by
  have h1 : 0 ≤ x * c := Int.mul_nonneg hx (by omega)
  have h2 : (x + 1) * c ≤ M * 24 := Int.mul_le_mul hM hc (by omega) (by omega)
  rw [Int.add_mul, Int.one_mul] at h2
  omega
end Go.Proofs.YtaacofbmbpkeoaaGreatDoor

namespace Go.Proofs.YtaacofbmbpkeoaaGreatDoor
open Go.RowKit
set_option maxRecDepth 1000000
/-- Three ints as the program keeps them. -/
abbrev tV (x y z : Int) : Value := .agg #[.int .i64 x, .int .i64 y, .int .i64 z]
theorem trip_cell {w : World} {B : Nat} {x y z : Value} {T : TypeId} (h : w.heap[B]? = some (.cells #[x, y, z] T (0, 0))) :
    w.cell? ⟨B, 0, none⟩ = some x ∧ w.cell? ⟨B, 1, none⟩ = some y ∧ w.cell? ⟨B, 2, none⟩ = some z ∧ w.frozen? ⟨B, 0, none⟩ = false ∧ w.frozen? ⟨B, 1, none⟩ = false ∧ w.frozen? ⟨B, 2, none⟩ = false :=
  ⟨by simp [World.cell?, h], by simp [World.cell?, h], by simp [World.cell?, h], by simp [World.frozen?, h], by simp [World.frozen?, h], by simp [World.frozen?, h]⟩
theorem below_set3 {B b : Nat} {w0 w : World} {x y z : Value} (h : Below B w0 w) (hb : B ≤ b) : Below B w0 (((w.setCell ⟨b, 0, none⟩ x).setCell ⟨b, 1, none⟩ y).setCell ⟨b, 2, none⟩ z) :=
  Below.setCell (Below.setCell (Below.setCell h hb _) hb _) hb _
/-- What ordersOf answers. -/
def OrdersPost (l : List Int) (w : World) (e : Ending) (w' : World) : Prop :=
  ∃ x y z, e = .returned (.tuple #[tV x y z, .bool (grpB l)]) ∧ (grpB l = true → x = l.getD 0 1 ∧ y = l.getD 1 1 ∧ z = l.getD 2 1) ∧ Below w.heap.size w w'
/-- The orders, with ones behind them. -/
theorem splice_pad (l : List Int) (h : l.length ≤ 3) : splice [Value.int .i64 1, Value.int .i64 1, Value.int .i64 1] 0 (l.map (Value.int .i64)) = [.int .i64 (l.getD 0 1), .int .i64 (l.getD 1 1), .int .i64 (l.getD 2 1)] := by
  match l, h with
  | [], _ => rfl
  | [_], _ => rfl
  | [_, _], _ => rfl
  | [_, _, _], _ => rfl
  | _ :: _ :: _ :: _ :: _, h => simp at h
theorem iOrders (w : World) (a : Option Addr) (l : List Int) (n cap : Nat) (hn : n = l.length) (hm : n ≤ 9223372036854775807) (hi : Ints w a l) :
    Calls Tryz.prog 82 #[.agg #[.slice a n cap]] w (OrdersPost l w) := by
  have HI := Lib.hid (ints_alloc (ints_alloc hi (.cells #[.slice a n cap] 26)) (.cells #[.int .i64 0, .int .i64 0, .int .i64 0] 41))
  have HN := Lib.hid hn
  have C1 := keepC (Joins.below_alloc1 _ (.cells #[.int .i64 0, .int .i64 0, .int .i64 0] 41)) (by simp) (newC w (.slice a n cap) 26 (n := w.heap.size) rfl)
  have HB := Lib.hid (Joins.below_alloc2 w (.cells #[.slice a n cap] 26) (.cells #[.int .i64 0, .int .i64 0, .int .i64 0] 41))
  clear hi hn
  by_cases hlong : 3 < n
  · have HF := Lib.hid (grpB_long (l := l) (by rw [← HN.out]; exact hlong))
    go_enter Tryz.func82, Tryz.ntmps82
    go_wp2
    refine bodyPost_ret (v := .tuple #[tV 0 0 0, .bool false]) (by rw [results_cell_tmp Tryz.results82]; simp [go_sem]) rfl ⟨0, 0, 0, by rw [HF.out], by rw [HF.out]; simp, HB.out⟩
  · have h3 : n ≤ 3 := by omega
    go_enter Tryz.func82, Tryz.ntmps82
    go_wp2
    go_loop [4, 16] (fun p i => ∃ k : Nat, k ≤ n ∧ i = .int .i64 k ∧ p = .int .i64 (PK l k) ∧ Hid (∀ j, j < k → 2 ≤ l.getD j 0 ∧ l.getD j 0 ≤ 24)) (fun _ i => n - (intOf i).toNat)
    case atStart => exact ⟨0, by omega, rfl, by rw [PK_zero], Lib.hid (fun j h => by omega)⟩
    case round =>
      obtain ⟨k, hk, rfl, rfl, HR⟩ := hrel
      have hkl : k ≤ l.length := by rw [← HN.out]; exact hk
      have hsm := PK_small l k hkl (by omega) HR.out
      by_cases hlt : k < n
      · have hkl2 : k < l.length := by rw [← HN.out]; exact hlt
        rcases HI.out with h0 | ⟨b, off, h1, hbl, hc⟩
        · rw [h0] at hkl2; simp at hkl2
        · subst h1
          have r1 := hc k hkl2
          clear hc hkl
          have HS := Lib.hid (PK_succ l k hkl2)
          by_cases hin : 2 ≤ l.getD k 0 ∧ l.getD k 0 ≤ 24
          · obtain ⟨hi1, hi2⟩ := hin
            have HX := Lib.hid (And.intro hi1 hi2)
            have hP := mul_bnd hsm.1 hsm.2 (show 1 ≤ l.getD k 0 by omega) hi2
            have HR2 : Hid (∀ j, j < k + 1 → 2 ≤ l.getD j 0 ∧ l.getD j 0 ≤ 24) := Lib.hid (fun j hj => by
              rcases Nat.lt_or_ge j k with h | h
              · exact HR.out j h
              · rw [show j = k by omega]; exact HX.out)
            obtain ⟨hP1, hP2⟩ := hP
            clear hkl2 hsm HX HR
            generalize l.getD k 0 = c at *
            generalize PK l k = N at *
            go_wp2
            go_round
            case rel => exact ⟨k + 1, by omega, by go_num, by rw [HS.out], HR2⟩
            case measure => simp [intOf]; omega
          · have HF := Lib.hid (grpB_out k hkl2 hin)
            have hor : l.getD k 0 < 2 ∨ 24 < l.getD k 0 := by omega
            clear hkl2 hsm HR HS hin
            generalize l.getD k 0 = c at *
            generalize PK l k = N at *
            rcases hor with h | h
            all_goals
              go_wp2
              refine bodyPost_ret (v := .tuple #[tV 0 0 0, .bool false]) (by rw [results_cell_tmp Tryz.results82]; simp [go_sem]) rfl ⟨0, 0, 0, by rw [HF.out], by rw [HF.out]; simp, HB.out⟩
      · obtain rfl : k = n := by omega
        have HF := Lib.hid (grpB_of (l := l) (by rw [← HN.out]; omega) (by rw [← HN.out]; exact HR.out))
        rw [← PK_full, ← HN.out] at HF
        clear hkl hsm HR
        generalize PK l k = N at *
        go_wp2
        have HSP := Lib.hid (splice_pad l (by rw [← HN.out]; omega))
        obtain ⟨W, hW⟩ : ∃ W, W = ((w.alloc (.cells #[.slice a k cap] 26)).alloc (.cells #[.int .i64 0, .int .i64 0, .int .i64 0] 41)).alloc (.cells #[.int .i64 1, .int .i64 1, .int .i64 1] 41) := ⟨_, rfl⟩
        have HBW : Hid (Below w.heap.size w W) := Lib.hid (by rw [hW]; exact Below.alloc HB.out (by simp; omega) _)
        have HD := Lib.hid (Below.drew (Below.refl (w.heap.size + 1 + 1) W))
        have Q1 : Hid (W.drew.heap[w.heap.size + 1 + 1]? = some (.cells [Value.int .i64 1, Value.int .i64 1, Value.int .i64 1].toArray 41 (0, 0))) := Lib.hid (by rw [hW]; have h := heap_alloc_new ((w.alloc (.cells #[.slice a k cap] 26)).alloc (.cells #[.int .i64 0, .int .i64 0, .int .i64 0] 41)) (.cells #[.int .i64 1, .int .i64 1, .int .i64 1] 41); rw [show ((w.alloc (.cells #[.slice a k cap] 26)).alloc (.cells #[.int .i64 0, .int .i64 0, .int .i64 0] 41)).heap.size = w.heap.size + 1 + 1 by simp] at h; exact h)
        have Q2 : Hid ((l.map (Value.int .i64)).length = Nat.min k 3) := Lib.hid (by rw [List.length_map, ← HN.out]; exact (Nat.min_eq_left (by omega)).symm)
        have Q3 : Hid (0 < (l.map (Value.int .i64)).length → (some ⟨w.heap.size + 1 + 1, 0, none⟩ : Option Addr) = some ⟨w.heap.size + 1 + 1, 0, none⟩ ∧ ∃ ad, a = some ad ∧ ∀ j v, (l.map (Value.int .i64))[j]? = some v → W.drew.cell? (ad.add j) = some v) := Lib.hid (fun hp => by
          refine ⟨rfl, ?_⟩
          rcases HI.out with h0 | ⟨b, off, h1, hbl, hc⟩
          · rw [h0] at hp; simp at hp
          · refine ⟨_, h1, fun j v hv => ?_⟩
            have hj : j < l.length := by
              rcases Nat.lt_or_ge j l.length with h | h
              · exact h
              · rw [List.getElem?_eq_none (by simpa using h)] at hv; cases hv
            rw [List.getElem?_map, List.getElem?_eq_getElem hj] at hv
            simp only [Option.map_some, Option.some.injEq] at hv
            have := hc j hj
            rw [hW, show (⟨b, off, none⟩ : Addr).add j = ⟨b, off + j, none⟩ by simp [Addr.add]]
            show World.cell? _ _ = _
            rw [← hv]
            have h2 := keepC (Joins.below_alloc1 _ (.cells #[.int .i64 1, .int .i64 1, .int .i64 1] 41)) (by simpa using hbl) this
            simpa [List.getD, List.getElem?_eq_getElem hj] using h2)
        have Q4 : Hid (0 + (l.map (Value.int .i64)).length ≤ [Value.int .i64 1, Value.int .i64 1, Value.int .i64 1].length) := Lib.hid (by rw [List.length_map, ← HN.out]; simpa using h3)
        have Q5 : Hid (∀ v ∈ l.map (Value.int .i64), v.oneCell' = true) := Lib.hid (fun v hv => by obtain ⟨x, _, rfl⟩ := List.mem_map.1 hv; rfl)
        have C2 : W.cell? ⟨w.heap.size, 0, none⟩ = some (.slice a k cap) := by rw [hW]; exact keepC (Joins.below_alloc1 _ _) (by simp; omega) C1
        have H0 : W.heap[w.heap.size + 1]? = some (.cells #[.int .i64 0, .int .i64 0, .int .i64 0] 41 (0, 0)) := by
          rw [hW, heap_alloc_old _ _ (by simp)]; simpa using heap_alloc_new (w.alloc (.cells #[.slice a k cap] 26)) (.cells #[.int .i64 0, .int .i64 0, .int .i64 0] 41)
        have H0' := Lib.hid H0
        clear H0 C1
        rw [← hW]
        clear hW
        go_region_law (refine step_copy_splice rfl (.tmp 32) (.tmp 34) 24 24 rfl 3 Tryz.underlying24 (by kernel_rfl) (some ⟨w.heap.size + 1 + 1, 0, none⟩) a 3 3 k cap (by simp [Act.eval]) (by simp [Act.eval]) (w.heap.size + 1 + 1) 0 [.int .i64 1, .int .i64 1, .int .i64 1] 41 Q1.out (l.map (Value.int .i64)) Q2.out Q3.out Q4.out Q5.out (w.heap.size + 1 + 1) W HD.out (Nat.le_refl _) ?_; intro w4 hg4 hb4)
        all_goals
          have hh := hg4.out
          obtain ⟨o0, E0⟩ : ∃ o, Hid (l.getD 0 1 = o) := ⟨_, Lib.hid rfl⟩
          obtain ⟨o1, E1⟩ : ∃ o, Hid (l.getD 1 1 = o) := ⟨_, Lib.hid rfl⟩
          obtain ⟨o2, E2⟩ : ∃ o, Hid (l.getD 2 1 = o) := ⟨_, Lib.hid rfl⟩
          rw [HSP.out, E0.out, E1.out, E2.out] at hh
          have hr := (hb4.block (w.heap.size + 1) (by omega)).trans H0'.out
          obtain ⟨a0, a1, a2, _, _, _⟩ := trip_cell hh
          obtain ⟨b0, b1, b2, g0, g1, g2⟩ := trip_cell hr
          have HR := Lib.hid hr
          have HH := Lib.hid hh
          clear hg4 hr hh
          go_wp2
          refine bodyPost_ret (v := .tuple #[tV o0 o1 o2, .bool (decide (N ≤ 24))]) (by rw [results_cell_tmp Tryz.results82]; simp [go_sem, b0, b1, b2]) rfl ⟨o0, o1, o2, by rw [HF.out], fun _ => ⟨E0.out.symm, E1.out.symm, E2.out.symm⟩, ?_⟩
          exact below_set3 (HBW.out.trans (hb4.mono (by omega))) (by omega)
end Go.Proofs.YtaacofbmbpkeoaaGreatDoor

namespace Go.Proofs.YtaacofbmbpkeoaaGreatDoor
open Go.RowKit
set_option maxRecDepth 1000000
theorem keepD {w w' : World} {p : Addr} {v : Value} (hb : Below w.heap.size w w') (h : w.cell? p = some v) : w'.cell? p = some v := keepC hb (World.block_lt_of_cell? w _ h) h
end Go.Proofs.YtaacofbmbpkeoaaGreatDoor

namespace Go.Proofs.YtaacofbmbpkeoaaGreatDoor
open Go.RowKit
set_option maxRecDepth 1000000
theorem own_slice' {w : World} {B n : Nat} {v : Value} {l : List Int} (hn : n = l.length) (h : w.ownsRow B 3 1 v n (l.map (Value.int .i64))) : ∃ a cap, v = .slice a n cap := by
  subst hn
  obtain ⟨h1, h2⟩ := h
  rcases h2 with ⟨h2, h3⟩ | ⟨g, cap, cur, hv, _⟩
  · have : l = [] := by simpa using h3
    subst this
    exact ⟨none, 0, h2⟩
  · exact ⟨_, cap, hv⟩
theorem own_ints' {w : World} {B n cap : Nat} {a : Option Addr} {l : List Int} (hn : n = l.length) (h : w.ownsRow B 3 1 (.slice a n cap) n (l.map (Value.int .i64))) : Ints w a l := by
  subst hn
  obtain ⟨h1, h2⟩ := h
  rcases h2 with ⟨h2, h3⟩ | ⟨g, cap, cur, hv, hb, hg, h4, h5, h6, h7⟩
  · exact .inl (by simpa using h3)
  · cases hv
    exact ints_own ⟨h1, .inr ⟨g, cap, cur, rfl, hb, hg, h4, h5, h6, h7⟩⟩
theorem one_cell {w : World} {b : Nat} {v : Value} {T : TypeId} (h : w.heap[b]? = some (.cells #[v] T (0, 0))) : w.cell? ⟨b, 0, none⟩ = some v ∧ w.frozen? ⟨b, 0, none⟩ = false :=
  ⟨by simp [World.cell?, h], by simp [World.frozen?, h]⟩
theorem set_one {w : World} {b : Nat} {v u : Value} {T : TypeId} (h : w.heap[b]? = some (.cells #[v] T (0, 0))) : (w.setCell ⟨b, 0, none⟩ u).heap[b]? = some (.cells #[u] T (0, 0)) := by
  rw [heap_setCell_same w b 0 _ _ u h]; rfl
end Go.Proofs.YtaacofbmbpkeoaaGreatDoor
