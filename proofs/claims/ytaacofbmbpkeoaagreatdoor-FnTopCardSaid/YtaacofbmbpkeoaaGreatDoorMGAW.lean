/- Merged: EnSpec EnI EnJ EnT EnQua ConMath. -/
import Derived.Test.YtaacofbmbpkeoaaGreatDoorMGAV
import Derived.Test.YtaacofbmbpkeoaaGreatDoorEnMath
import Derived.Deep.RegionHeld3
import Derived.Deep.DeepCutAuto
import Derived.Deep.RegionWith
import Derived.Deep.RegionLaw
import Derived.Test.YtaacofbmbpkeoaaGreatDoorSumT
import Derived.Test.YtaacofbmbpkeoaaGreatDoorMGAM
import Derived.Test.YtaacofbmbpkeoaaGreatDoorMGAG
import Derived.Test.YtaacofbmbpkeoaaGreatDoorMGAJ
import Derived.Test.YtaacofbmbpkeoaaGreatDoorMGAI
import Derived.Test.YtaacofbmbpkeoaaGreatDoorMGAA
import Derived.OwnWalkIn
import Derived.RangeFuncBox
import Derived.Test.YtaacofbmbpkeoaaGreatDoorMGAC
namespace Go.Proofs.YtaacofbmbpkeoaaGreatDoor
open Go.RowKit
set_option maxRecDepth 1000000
theorem sq_bnd {x : Int} (x1 : 0 ≤ x) (x2 : x ≤ 576) : 0 ≤ x * x ∧ x * x ≤ 331776 := by
  refine ⟨Int.mul_nonneg x1 x1, ?_⟩
  have := Int.mul_le_mul x2 x2 x1 (by omega)
  omega
theorem acc_mid {f : Nat → Int} {c : Int} {n : Nat} (h : ∀ i, i < n → 0 ≤ f i ∧ f i ≤ c) {k : Nat} (hk : k ≤ n) : 0 ≤ accN f k ∧ accN f k ≤ (k : Int) * c := by
  have := accN_bnd (n := k) (a := 0) (b := c) (fun i hi => h i (by omega))
  omega
theorem _root_.Go.World.ownsRow.shrinkE {w : World} {B C n : Nat} {v : Value} {xs : List Value} (h : w.ownsRow B 3 1 v n xs) (hc : C ≤ B) : w.ownsRow C 3 1 v n xs := by
  obtain ⟨h1, h2⟩ := h
  refine ⟨h1, ?_⟩
  rcases h2 with h2 | ⟨g, cap, cur, e, a1, rest⟩
  · exact .inl h2
  · exact .inr ⟨g, cap, cur, e, Nat.le_trans hc a1, rest⟩
theorem corE_len (l : List Int) (s t : Int) : (corE l s t).length ≤ 24 := by
  unfold corE
  split
  · next h =>
    have hg : grpB l = true := by
      unfold two at h; rw [Bool.and_eq_true] at h; exact (isS_true h.1).1
    have := (grpB_true hg).2.2
    rw [tabN_len]; omega
  · simp
end Go.Proofs.YtaacofbmbpkeoaaGreatDoor

namespace Go.Proofs.YtaacofbmbpkeoaaGreatDoor
open Go.RowKit
set_option maxRecDepth 1000000
theorem iSq (w : World) (x : Int) (x1 : 0 ≤ x) (x2 : x ≤ 576) : Calls Tryz.prog 57 #[.int .i64 x] w fun e w' => e = .returned (.int .i64 (x * x)) ∧ w = w' := by
  obtain ⟨m1, m2⟩ := sq_bnd x1 x2
  go_enter Tryz.func57, Tryz.ntmps57
  go_wp2
  go_ret
  exact ⟨rfl, rfl⟩
theorem iTotI (w : World) (a : Option Addr) (M : List Int) (n cap : Nat) (hn : n = M.length) (hm : n ≤ 24) (hi : Ints w a M) (hb : ∀ k, k < n → 0 ≤ M.getD k 0 ∧ M.getD k 0 ≤ 576) :
    Calls Tryz.prog 56 #[.slice a n cap, .func (.func 57) #[] #[]] w fun e w' => e = .returned (.int .i64 (accN (fun i => M.getD i 0 * M.getD i 0) n)) ∧ w = w' := by
  have HI := Lib.hid hi
  have HN := Lib.hid hn
  have HBD := Lib.hid hb
  have HAB : Hid (∀ k, k ≤ n → 0 ≤ accN (fun i => M.getD i 0 * M.getD i 0) k ∧ accN (fun i => M.getD i 0 * M.getD i 0) k ≤ 7962624) := Lib.hid (fun k hk => by
    have := acc_mid (f := fun i => M.getD i 0 * M.getD i 0) (c := 331776) (n := n) (fun i hi => sq_bnd (hb i hi).1 (hb i hi).2) hk
    have : (k : Int) * 331776 ≤ 24 * 331776 := Int.mul_le_mul_of_nonneg_right (by omega) (by decide)
    omega)
  have HSTEP : Hid (∀ k, accN (fun i => M.getD i 0 * M.getD i 0) (k + 1) = accN (fun i => M.getD i 0 * M.getD i 0) k + M.getD k 0 * M.getD k 0) := Lib.hid (fun k => rfl)
  have HZ : Hid (accN (fun i => M.getD i 0 * M.getD i 0) 0 = 0) := Lib.hid rfl
  obtain ⟨A, HA⟩ : ∃ A, Hid (accN (fun i => M.getD i 0 * M.getD i 0) = A) := ⟨_, Lib.hid rfl⟩
  rw [HA.out] at HAB HSTEP HZ
  rw [HA.out]
  clear hi hn hb
  go_enter Tryz.func56, Tryz.ntmps56
  go_wp2
  go_loopw [5, 10] (fun o i wr => ∃ k : Nat, k ≤ n ∧ i = .int .i64 k ∧ o = .int .i64 (A k) ∧ w = wr) (fun _ i _ => n - (intOf i).toNat)
  case atStart => exact ⟨0, Nat.zero_le _, rfl, by rw [HZ.out], rfl⟩
  case round =>
    obtain ⟨k, hk, rfl, rfl, rfl⟩ := hrel
    obtain ⟨y1, y2⟩ := HAB.out k hk
    by_cases hlt : k < n
    · have hkl : k < M.length := by rw [← HN.out]; exact hlt
      rcases HI.out with h0 | ⟨b, off, h1, hbl, hc⟩
      · rw [h0] at hkl; simp at hkl
      · subst h1
        have r1 := hc k hkl
        obtain ⟨x1, x2⟩ := HBD.out k hlt
        have HST := Lib.hid (HSTEP.out k)
        obtain ⟨x, HX⟩ : ∃ x, Hid (M.getD k 0 = x) := ⟨_, Lib.hid rfl⟩
        rw [HX.out] at r1 x1 x2 HST
        obtain ⟨m1, m2⟩ := sq_bnd x1 x2
        obtain ⟨ak, HAK⟩ : ∃ ak, Hid (A k = ak) := ⟨_, Lib.hid rfl⟩
        rw [HAK.out] at y1 y2 HST
        rw [HAK.out]
        clear hc hbl hkl
        have HSQ := Lib.hid (iSq w x x1 x2)
        obtain ⟨q, HQ⟩ : ∃ q, Hid (x * x = q) := ⟨_, Lib.hid rfl⟩
        rw [HQ.out] at HSQ m1 m2 HST
        go_wp2_with (go_at_call 57; refine (HSQ.out).mono ?_; rintro e w5 ⟨rfl, rfl⟩)
        go_roundw
        case rel => exact ⟨k + 1, by omega, by go_num, by rw [HST.out], by first | trivial | rfl⟩
        case measure => simp [intOf]; omega
    · obtain rfl : k = n := by omega
      go_wp2
      go_ret
      exact ⟨rfl, rfl⟩
set_option maxHeartbeats 4000000 in
theorem iEng (w : World) (a : Option Addr) (l : List Int) (n cap : Nat) (s t : Int) (hn : n = l.length) (hm : n ≤ 9223372036854775807) (hi : Ints w a l) (B : Nat) (hB0 : B ≤ w.heap.size) (ht : TabZ B w) :
    Calls Tryz.prog 20 #[.agg #[.slice a n cap], .int .i64 s, .int .i64 t] w fun e w' => e = .returned (.int .i64 (engE l s t)) ∧ Below w.heap.size w w' := by
  have HTZ := Lib.hid ht
  clear ht
  have HI := Lib.hid (ints_alloc hi (.cells #[.slice a n cap] 26))
  have HN := Lib.hid hn
  have C1 := newC w (.slice a n cap) 26 (n := w.heap.size) rfl
  have HB := Lib.hid (Joins.below_alloc1 w (.cells #[.slice a n cap] 26))
  have T0 := Lib.hid (Below.refl (w.alloc (.cells #[.slice a n cap] 26)).heap.size (w.alloc (.cells #[.slice a n cap] 26)))
  clear hi hn
  cases hs : two l s t with
  | false =>
    have HS := Lib.hid hs
    rw [show engE l s t = -1 by unfold engE; rw [if_neg (by simp [hs])]]
    clear hs
    go_enter Tryz.func20, Tryz.ntmps20
    go_wp2_with (go_at_call 39; refine (iSetsIn_no _ _ _ _ _ _ _ HN.out hm (HI.out.below rfl T0.out) HS.out).mono ?_; rintro e w1 ⟨p, q, r, u, v, rfl, hb1⟩)
    go_ret
    exact ⟨rfl, HB.out.trans ((hb1.mono (by simp)).alloc (Nat.le_trans (by simp) hb1.size) _)⟩
  | true =>
    have HS := Lib.hid hs
    obtain ⟨hg, s, t, rfl, rfl, hsn, htn⟩ := two_true hs
    have HST := Lib.hid (fun (W : World) h1 h2 => iSumT hg W s t hsn htn B h1 h2)
    have hpr := (ords_grp hg).prod
    obtain ⟨N, HNN⟩ : ∃ N : Nat, Hid ((prodI l).toNat = N) := ⟨_, Lib.hid rfl⟩
    have hN24 : N ≤ 24 := by have := HNN.out; omega
    have HBD : Hid (∀ k, k < N → 0 ≤ (tabN l s t).getD k 0 ∧ (tabN l s t).getD k 0 ≤ 576) := Lib.hid (fun k hk => tabN_bnd l _ _ (by rw [HNN.out]; exact hk))
    have HML : Hid ((tabN l s t).length = N) := Lib.hid (by rw [tabN_len, HNN.out])
    rw [show engE l s t = accN (fun i => (tabN l s t).getD i 0 * (tabN l s t).getD i 0) N by unfold engE; rw [if_pos hs, HNN.out]; rfl]
    obtain ⟨M, HM⟩ : ∃ M, Hid (tabN l s t = M) := ⟨_, Lib.hid rfl⟩
    rw [HM.out] at HST HBD HML
    obtain ⟨p, EP⟩ : ∃ p, Hid (l.getD 0 1 = p) := ⟨_, Lib.hid rfl⟩
    obtain ⟨q, EQ⟩ : ∃ q, Hid (l.getD 1 1 = q) := ⟨_, Lib.hid rfl⟩
    obtain ⟨r, ER⟩ : ∃ r, Hid (l.getD 2 1 = r) := ⟨_, Lib.hid rfl⟩
    rw [EP.out, EQ.out, ER.out] at HST
    rw [HM.out]
    have HTO := Lib.hid (fun (W : World) a c (h : Ints W a M) => iTotI W a M N c HML.out.symm hN24 h HBD.out)
    obtain ⟨V, HV⟩ : ∃ V, Hid (accN (fun i => M.getD i 0 * M.getD i 0) N = V) := ⟨_, Lib.hid rfl⟩
    rw [HV.out] at HTO
    rw [HV.out]
    clear hs hg hsn htn hpr
    go_enter Tryz.func20, Tryz.ntmps20
    go_wp2_with (first
      | (go_at_call 56; refine (HTO.out _ _ _ I3.out).mono ?_; rintro e w4 ⟨rfl, rfl⟩)
      | (go_at_call 41; refine (HST.out _ (Nat.le_trans (Nat.le_trans hB0 T1.out.size) T2.out.size) (HTZ.out.on ((T1.out.trans (T2.out.mono T1.out.size)).mono hB0))).mono ?_; rintro e w3 ⟨v3, rfl, ho3, hb3⟩; rw [HML.out] at ho3; obtain ⟨a3, cap3, rfl⟩ := own_sl ho3; have I3 := Lib.hid (own_in ho3); have B3 := Lib.hid hb3; clear ho3 hb3)
      | (go_at_call 39; refine (iSetsIn_yes _ _ _ _ _ _ _ HN.out hm (HI.out.below rfl T0.out) HS.out).mono ?_; rw [EP.out, EQ.out, ER.out]; rintro e w1 ⟨rfl, hb1⟩; have T1 := Lib.hid (HB.out.trans (hb1.mono (by simp))); have T2 := Lib.hid (Joins.below_alloc1 w1 (.cells #[.int .i64 p, .int .i64 q, .int .i64 r] 41)); have HAL := Lib.hid (heap_alloc_new w1 (.cells #[.int .i64 p, .int .i64 q, .int .i64 r] 41)); obtain ⟨y0, y1, y2, _, _, _⟩ := trip_cell HAL.out; clear hb1))
    go_ret
    exact ⟨rfl, (T1.out.trans (T2.out.mono T1.out.size)).trans (B3.out.mono (Nat.le_trans T1.out.size T2.out.size))⟩
theorem two_ng (l : List Int) (s t : Int) : tabE l s (ngE l t) = corE l s t := by
  unfold corE
  cases h : two l s t with
  | true =>
    unfold two at h
    rw [Bool.and_eq_true] at h
    obtain ⟨hg, t, rfl, ht, _⟩ := isS_true h.2
    rw [show ngE l (t : Int) = ((ngN l t : Nat) : Int) by unfold ngE; rw [if_pos h.2]; rfl]
    rw [tabE_two (by unfold two; rw [h.1, isS_of hg (ngN_lt hg t)]; rfl), if_pos rfl]
    rfl
  | false =>
    rw [if_neg (by simp)]
    apply tabE_no
    unfold two at h ⊢
    cases h1 : isS l s with
    | false => rfl
    | true =>
      rw [h1, Bool.true_and] at h
      rw [show ngE l t = -1 by unfold ngE; rw [if_neg (by simp [h])], isS_neg (by omega)]
      rfl
set_option maxHeartbeats 4000000 in
theorem iCor (w : World) (a : Option Addr) (l : List Int) (n cap : Nat) (s t : Int) (hn : n = l.length) (hm : n ≤ 9223372036854775807) (hi : Ints w a l) (B : Nat) (hB0 : B ≤ w.heap.size) (ht : TabZ B w) :
    Calls Tryz.prog 22 #[.agg #[.slice a n cap], .int .i64 s, .int .i64 t] w fun e w' => ∃ v, e = .returned v ∧ w'.ownsRow w.heap.size 3 1 v (corE l s t).length ((corE l s t).map (Value.int .i64)) ∧ Below w.heap.size w w' := by
  have HTZ := Lib.hid ht
  clear ht
  have HI := Lib.hid (ints_alloc hi (.cells #[.slice a n cap] 26))
  have HN := Lib.hid hn
  have C1 := newC w (.slice a n cap) 26 (n := w.heap.size) rfl
  have HB := Lib.hid (Joins.below_alloc1 w (.cells #[.slice a n cap] 26))
  have T0 := Lib.hid (Below.refl (w.alloc (.cells #[.slice a n cap] 26)).heap.size (w.alloc (.cells #[.slice a n cap] 26)))
  clear hi hn
  have HTE := Lib.hid (two_ng l s t)
  go_enter Tryz.func22, Tryz.ntmps22
  have TD := Lib.hid T0.out.drew
  go_wp2
  go_region_held3 (fun W => W.cell? ⟨w.heap.size, 0, none⟩ = some (.slice a n cap)) (first | exact c2 | exact c1 | exact C1)
    (first
     | (go_at_call 8; refine (iTab _ _ _ _ _ _ _ HN.out hm (HI.out.below rfl T1.out) B (Nat.le_trans (Nat.le_trans hB0 HB.out.size) T1.out.size) (HTZ.out.on ((HB.out.trans (T1.out.mono (by simp))).mono hB0))).mono ?_; rw [HTE.out]; rintro e w2 ⟨v2, rfl, ho2, hb2⟩; have O2 := Lib.hid (ho2.shrinkT (Nat.le_trans HB.out.size T1.out.size)); have T2 := Lib.hid (T1.out.trans (hb2.mono T1.out.size)); have c2 := keepC T2.out (by simp) C1; clear ho2)
     | (go_at_call 58; refine (iNegS _ _ _ _ _ _ HN.out hm (HI.out.below rfl TD.out) B (Nat.le_trans (Nat.le_trans hB0 HB.out.size) TD.out.size) (HTZ.out.on ((HB.out.trans (TD.out.mono (by simp))).mono hB0))).mono ?_; rintro e w1 ⟨rfl, hb1⟩; have T1 := Lib.hid (TD.out.trans (hb1.mono TD.out.size)); have c1 := keepC T1.out (by simp) C1))
  go_wp2
  go_ret
  exact ⟨_, rfl, O2.out, HB.out.trans (T2.out.mono (by simp))⟩
end Go.Proofs.YtaacofbmbpkeoaaGreatDoor

namespace Go.Proofs.YtaacofbmbpkeoaaGreatDoor
open Go.RowKit
set_option maxRecDepth 1000000
theorem one_cellP {w : World} {B : Nat} {x : Value} {T : TypeId} (h : w.heap[B]? = some (.cells #[x] T (0, 0))) : w.cell? ⟨B, 0, none⟩ = some x := by simp [World.cell?, h]
end Go.Proofs.YtaacofbmbpkeoaaGreatDoor

namespace Go.Proofs.YtaacofbmbpkeoaaGreatDoor
open Go.RowKit Go.Shelf
attribute [local go_sem] Oper.semAt_some
set_option maxRecDepth 1000000
theorem elInfo : (Tryz.prog.info? 43).map (fun i => (i.zero, i.size, i.bytes)) = some (some (.int .u64 0), 1, 8) := by kernel_rfl
theorem one_cellT {w : World} {B : Nat} {x : Value} {T : TypeId} (h : w.heap[B]? = some (.cells #[x] T (0, 0))) : w.cell? ⟨B, 0, none⟩ = some x := by simp [World.cell?, h]
theorem keeps_belowT {W W' : World} (h : Below W.heap.size W W') : KeepsOthers W W' := ⟨h.size, fun k _ ho _ => (h.block k (Array.getElem?_eq_some_iff.1 ho).1).trans ho⟩
def isDefT : Op → Bool
  | .defer _ => true
  | _ => false
theorem no_deferT {ops : Array Oper} (h : (ops.toList.all fun o => !isDefT o.op) = true) : ∀ (i : Nat) (o : Oper), ops[i]? = some o → ∀ c, o.op ≠ .defer c := fun i o ho c e => by
  have h2 := List.all_eq_true.1 h o (by
    rw [Array.getElem?_eq_some_iff] at ho
    obtain ⟨hi, rfl⟩ := ho
    simp)
  rw [e] at h2
  cases h2
/-- A row of sets, as values. -/
def rowOfE (f : Nat → Nat) (L : List Nat) : List Value := L.map fun x => .int .u64 (f x : Nat)
theorem rowOfE_snoc (f : Nat → Nat) (L : List Nat) (x : Nat) : rowOfE f (L ++ [x]) = rowOfE f L ++ [.int .u64 (f x : Nat)] := by simp [rowOfE]
theorem rowOfE_len (f : Nat → Nat) (L : List Nat) : (rowOfE f L).length = L.length := by simp [rowOfE]
theorem rowE_read {w : World} {B : Nat} {v : Value} {f : Nat → Nat} {L : List Nat} (h : w.ownsRow B 43 1 v L.length (rowOfE f L)) :
    ∃ a cap, v = .slice a L.length cap ∧ ∀ i, i < L.length → ∃ b, a = some ⟨b, 0, none⟩ ∧ w.cell? ⟨b, i, none⟩ = some (.int .u64 (f (L.getD i 0) : Nat)) := by
  have hh := h
  obtain ⟨h1, h2⟩ := h
  rcases h2 with ⟨h2, h3⟩ | ⟨g, cap, cur, rfl, rest⟩
  · have : L.length = 0 := h3
    exact ⟨none, 0, by rw [this]; exact h2, fun i hi => by omega⟩
  · refine ⟨_, cap, rfl, fun i hi => ⟨g, rfl, ?_⟩⟩
    have hg := hh.cellAt i (by omega)
    rw [hg]
    unfold rowOfE
    simp [List.getD, hi]
end Go.Proofs.YtaacofbmbpkeoaaGreatDoor

namespace Go.Proofs.YtaacofbmbpkeoaaGreatDoor
open Go.RowKit
set_option maxRecDepth 1000000
/-- One number of the innermost loop. -/
def qF (l : List Int) (s x y z : Nat) : Int := bitI s (addN l (addN l (x : Int) (y : Int)) (negN l (z : Int))).toNat
def q3 (l : List Int) (s : Nat) (x y k : Nat) : Int := accN (fun i => qF l s x y ((bitsN s).getD i 0)) k
def q2 (l : List Int) (s : Nat) (x k : Nat) : Int := accN (fun i => q3 l s x ((bitsN s).getD i 0) (bitsN s).length) k
def q1 (l : List Int) (s : Nat) (k : Nat) : Int := accN (fun i => q2 l s ((bitsN s).getD i 0) (bitsN s).length) k
theorem q1_full (l : List Int) (s : Nat) : q1 l s (bitsN s).length = quaN l s := by
  unfold q1
  rw [accN_list (fun x => q2 l s x (bitsN s).length)]
  unfold quaN
  refine sumL_congr (fun x _ => ?_)
  unfold q2
  rw [accN_list (fun y => q3 l s x y (bitsN s).length)]
  refine sumL_congr (fun y _ => ?_)
  unfold q3
  rw [accN_list (fun z => qF l s x y z)]
  rfl
theorem q3_bnd (l : List Int) (s x y : Nat) {k : Nat} (hk : k ≤ (bitsN s).length) : 0 ≤ q3 l s x y k ∧ q3 l s x y k ≤ 24 := by
  have := accN_bnd (f := fun i => qF l s x y ((bitsN s).getD i 0)) (n := k) (a := 0) (b := 1) (fun i _ => bitI_bnd _ _)
  have := bits_le s
  unfold q3
  omega
theorem q2_bnd (l : List Int) (s x : Nat) {k : Nat} (hk : k ≤ (bitsN s).length) : 0 ≤ q2 l s x k ∧ q2 l s x k ≤ 576 := by
  have := accN_bnd (f := fun i => q3 l s x ((bitsN s).getD i 0) (bitsN s).length) (n := k) (a := 0) (b := 24) (fun i _ => q3_bnd l s x _ (Nat.le_refl _))
  have := bits_le s
  unfold q2
  omega
theorem q1_bnd (l : List Int) (s : Nat) {k : Nat} (hk : k ≤ (bitsN s).length) : 0 ≤ q1 l s k ∧ q1 l s k ≤ 13824 := by
  have := accN_bnd (f := fun i => q2 l s ((bitsN s).getD i 0) (bitsN s).length) (n := k) (a := 0) (b := 576) (fun i _ => q2_bnd l s _ (Nat.le_refl _))
  have := bits_le s
  unfold q1
  omega
end Go.Proofs.YtaacofbmbpkeoaaGreatDoor

namespace Go.Proofs.YtaacofbmbpkeoaaGreatDoor
def tOk (x : Int) : Bool := decide (-10000 ≤ x) && decide (x ≤ 10000)
def tbB (l p : List Int) : Bool := (p.all fun x => tOk x) && (grpB l && decide ((p.length : Int) = prodI l))
theorem tbB_no {l p : List Int} {k : Nat} (hk : k < p.length) (h : tOk (p.getD k 0) = false) : tbB l p = false := by
  have : (p.all fun x => tOk x) = false := by
    rw [List.all_eq_false]
    exact ⟨p.getD k 0, by simp [List.getD, hk], by rw [h]; simp⟩
  unfold tbB
  rw [this]
  rfl
theorem tbB_all {l p : List Int} (h : ∀ k, k < p.length → tOk (p.getD k 0) = true) : tbB l p = (grpB l && decide ((p.length : Int) = prodI l)) := by
  have : (p.all fun x => tOk x) = true := by
    rw [List.all_eq_true]
    intro x hx
    obtain ⟨k, hk, rfl⟩ := List.getElem_of_mem hx
    have := h k hk
    simpa [List.getD, hk] using this
  unfold tbB
  rw [this]
  rfl
theorem tbB_yes {l p : List Int} (h : tbB l p = true) : (∀ k, k < p.length → -10000 ≤ p.getD k 0 ∧ p.getD k 0 ≤ 10000) ∧ grpB l = true ∧ (p.length : Int) = prodI l := by
  unfold tbB at h
  simp only [Bool.and_eq_true, decide_eq_true_eq, List.all_eq_true] at h
  refine ⟨fun k hk => ?_, h.2.1, h.2.2⟩
  have h1 := h.1 (p.getD k 0) (by simp [List.getD, hk])
  unfold tOk at h1
  simpa using h1
/-- One product is added at the sum of its places. -/
def cvS (l p q : List Int) (i k : Nat) (f : Nat → Int) : Nat → Int := fun z => f z + (if (addN l (i : Int) (k : Int)).toNat = z then p.getD i 0 * q.getD k 0 else 0)
def cvI (l p q : List Int) (i : Nat) (f : Nat → Int) : Nat → Nat → Int
  | 0 => f
  | k + 1 => cvS l p q i k (cvI l p q i f k)
def cvO (l p q : List Int) (N : Nat) : Nat → Nat → Int
  | 0 => fun _ => 0
  | i + 1 => cvI l p q i (cvO l p q N i) N
def zrow (f : Nat → Int) (n : Nat) : List Int := (List.range n).map f
theorem zrow_len (f : Nat → Int) (n : Nat) : (zrow f n).length = n := by simp [zrow]
theorem zrow_at (f : Nat → Int) (n k : Nat) (h : k < n) : (zrow f n).getD k 0 = f k := by simp [zrow, List.getD, h]
theorem prod_bnd8 {x y : Int} (x1 : -10000 ≤ x) (x2 : x ≤ 10000) (y1 : -10000 ≤ y) (y2 : y ≤ 10000) : -100000000 ≤ x * y ∧ x * y ≤ 100000000 := by
  have h : (x * y).natAbs ≤ 10000 * 10000 := by
    rw [Int.natAbs_mul]
    exact Nat.mul_le_mul (by omega) (by omega)
  omega
theorem cvI_bnd {l p q : List Int} (hp : ∀ k, k < p.length → -10000 ≤ p.getD k 0 ∧ p.getD k 0 ≤ 10000) (hq : ∀ k, k < q.length → -10000 ≤ q.getD k 0 ∧ q.getD k 0 ≤ 10000) {i : Nat} (hi : i < p.length) {f : Nat → Int} {B : Int} (hf : ∀ z, -B ≤ f z ∧ f z ≤ B) : ∀ k, k ≤ q.length → ∀ z, -(B + k * 100000000) ≤ cvI l p q i f k z ∧ cvI l p q i f k z ≤ B + k * 100000000
  | 0, _, z => by have := hf z; simp only [cvI]; omega
  | k + 1, hk, z => by
    have h := cvI_bnd (l := l) hp hq hi hf k (by omega) z
    have h2 := prod_bnd8 (hp i hi).1 (hp i hi).2 (hq k (by omega)).1 (hq k (by omega)).2
    simp only [cvI, cvS]
    split <;> omega
theorem cvO_bnd {l p q : List Int} (hp : ∀ k, k < p.length → -10000 ≤ p.getD k 0 ∧ p.getD k 0 ≤ 10000) (hq : ∀ k, k < q.length → -10000 ≤ q.getD k 0 ∧ q.getD k 0 ≤ 10000) {N : Nat} (hN : N ≤ q.length) (h24 : N ≤ 24) : ∀ i, i ≤ p.length → ∀ z, -((i : Int) * 2400000000) ≤ cvO l p q N i z ∧ cvO l p q N i z ≤ (i : Int) * 2400000000
  | 0, _, z => by simp [cvO]
  | i + 1, hi, z => by
    have h := cvO_bnd (l := l) hp hq hN h24 i (by omega)
    have := cvI_bnd (l := l) hp hq (show i < p.length by omega) h N hN z
    simp only [cvO]
    omega
theorem cvI_all {l p q : List Int} (hp : ∀ k, k < p.length → -10000 ≤ p.getD k 0 ∧ p.getD k 0 ≤ 10000) (hq : ∀ k, k < q.length → -10000 ≤ q.getD k 0 ∧ q.getD k 0 ≤ 10000) {N : Nat} (hN : N = q.length) (hM : N = p.length) (h24 : N ≤ 24) (i k : Nat) (hi : i < N) (hk : k ≤ N) (z : Nat) : -100000000000 ≤ cvI l p q i (cvO l p q N i) k z ∧ cvI l p q i (cvO l p q N i) k z ≤ 100000000000 := by
  have h := cvO_bnd (l := l) hp hq (N := N) (by omega) h24 i (by omega)
  have := cvI_bnd (l := l) hp hq (show i < p.length by omega) h k (by omega) z
  omega
def cvB (l p q : List Int) : Bool := tbB l p && tbB l q
def cvE (l p q : List Int) : List Int := if cvB l p q = true then zrow (cvO l p q p.length p.length) p.length else []
theorem cvE_len (l p q : List Int) : (cvE l p q).length ≤ 24 := by
  unfold cvE
  split
  · next h =>
    unfold cvB at h
    rw [Bool.and_eq_true] at h
    obtain ⟨_, hg, hl⟩ := tbB_yes h.1
    have := (ords_grp hg).prod
    rw [zrow_len]
    omega
  · simp
/-- The sum of a product is the product of the sums. -/
theorem cvI_sum {l p q : List Int} (ho : Ords l) (i : Nat) (f : Nat → Int) : ∀ k, accN (cvI l p q i f k) (prodI l).toNat = accN f (prodI l).toNat + p.getD i 0 * accN (fun j => q.getD j 0) k
  | 0 => by simp [cvI, accN]
  | k + 1 => by
    have hv := addN_in ho (i : Int) (k : Int)
    have hlt : (addN l (i : Int) (k : Int)).toNat < (prodI l).toNat := by omega
    have e : accN (cvI l p q i f (k + 1)) (prodI l).toNat = accN (fun z => cvI l p q i f k z + (if (addN l (i : Int) (k : Int)).toNat = z then (fun _ => p.getD i 0 * q.getD k 0) z else 0)) (prodI l).toNat := rfl
    rw [e, accN_add, accN_one, if_pos hlt, cvI_sum ho i f k]
    simp only [accN]
    rw [Int.mul_add]
    omega
theorem cvO_sum {l p q : List Int} (ho : Ords l) (N : Nat) : ∀ i, accN (cvO l p q N i) (prodI l).toNat = accN (fun j => p.getD j 0) i * accN (fun j => q.getD j 0) N
  | 0 => by simp only [cvO, accN]; rw [accN_zero]; simp
  | i + 1 => by
    simp only [cvO, accN]
    rw [cvI_sum ho, cvO_sum ho N i, Int.add_mul]
end Go.Proofs.YtaacofbmbpkeoaaGreatDoor
