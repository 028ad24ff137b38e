/- The document's reading of chapter 7, continued: counts are multiplied, exponents going round. -/
import Derived.Test.YthlpjiibjlaebaaGreatDoorMGAM
import Derived.Test.YthlpjiibjlaebaaGreatDoorMGAD
namespace Go.Proofs.YthlpjiibjlaebaaGreatDoor
open Go.RowKit
set_option maxRecDepth 1000000
theorem cell_grown7 {w w' : World} {g : Nat} (h : w.grownBy w' (some g)) {b k : Nat} (hb : b < w.heap.size) (hne : b ≠ g) {v : Option Value} (c : w.cell? ⟨b, k, none⟩ = v) : w'.cell? ⟨b, k, none⟩ = v := by
  rw [← c]
  unfold World.cell?
  simp only
  rw [h.block b hb (fun e => hne (by cases e; rfl))]
/-- One product is added at its place. -/
def mulS (p q : List Int) (N i k : Nat) (f : Nat → Int) : Nat → Int := fun z => f z + (if (i + k) % N = z then p.getD i 0 * q.getD k 0 else 0)
def mulI (p q : List Int) (N i : Nat) (f : Nat → Int) : Nat → Nat → Int
  | 0 => f
  | k + 1 => mulS p q N i k (mulI p q N i f k)
def mulO (p q : List Int) (N : Nat) : Nat → Nat → Int
  | 0 => fun _ => 0
  | i + 1 => mulI p q N i (mulO p q N i) N
def rowZ (f : Nat → Int) (n : Nat) : List Int := (List.range n).map f
theorem rowZ_len (f : Nat → Int) (n : Nat) : (rowZ f n).length = n := by simp [rowZ]
def rowV (f : Nat → Int) (n : Nat) : List Value := (rowZ f n).map (Value.int .i64)
theorem rowV_len (f : Nat → Int) (n : Nat) : (rowV f n).length = n := by simp [rowV, rowZ_len]
theorem rowV_zero (n : Nat) : rowV (fun _ => 0) n = (madeCells #[Value.int .i64 0] n).toList := by
  rw [toList_madeCells_one]
  unfold rowV rowZ
  rw [List.map_map]
  apply List.ext_getElem <;> simp
theorem rowV_at (f : Nat → Int) (n k : Nat) (h : k < n) : (rowV f n)[k]? = some (.int .i64 (f k)) := by
  unfold rowV rowZ
  simp [h]
theorem rowV_set (f : Nat → Int) (n k : Nat) (h : k < n) (d : Int) : (rowV f n).set k (.int .i64 (f k + d)) = rowV (fun z => f z + (if k = z then d else 0)) n := by
  apply List.ext_getElem?
  intro j
  unfold rowV rowZ
  by_cases hjn : j < n
  · by_cases e : k = j
    · subst e
      simp [h]
    · simp [e, hjn]
  · have : n ≤ j := by omega
    by_cases e : k = j
    · omega
    · simp [this]
theorem prod_bnd7 {x y : Int} (x1 : -1000 ≤ x) (x2 : x ≤ 1000) (y1 : -1000 ≤ y) (y2 : y ≤ 1000) : -1000000 ≤ x * y ∧ x * y ≤ 1000000 := by
  have h : (x * y).natAbs ≤ 1000 * 1000 := by
    rw [Int.natAbs_mul]
    exact Nat.mul_le_mul (by omega) (by omega)
  omega
theorem mulI_bnd {p q : List Int} (hp : ∀ k, k < p.length → -1000 ≤ p.getD k 0 ∧ p.getD k 0 ≤ 1000) (hq : ∀ k, k < q.length → -1000 ≤ q.getD k 0 ∧ q.getD k 0 ≤ 1000) {N i : Nat} (hi : i < p.length) {f : Nat → Int} {B : Int} (hf : ∀ z, -B ≤ f z ∧ f z ≤ B) : ∀ k, k ≤ q.length → ∀ z, -(B + k * 1000000) ≤ mulI p q N i f k z ∧ mulI p q N i f k z ≤ B + k * 1000000
  | 0, _, z => by have := hf z; simp only [mulI]; omega
  | k + 1, hk, z => by
    have h := mulI_bnd hp hq (N := N) hi hf k (by omega) z
    have h2 := prod_bnd7 (hp i hi).1 (hp i hi).2 (hq k (by omega)).1 (hq k (by omega)).2
    simp only [mulI, mulS]
    split <;> omega
theorem mulO_bnd {p q : List Int} (hp : ∀ k, k < p.length → -1000 ≤ p.getD k 0 ∧ p.getD k 0 ≤ 1000) (hq : ∀ k, k < q.length → -1000 ≤ q.getD k 0 ∧ q.getD k 0 ≤ 1000) {N : Nat} (hN : N ≤ q.length) (h24 : N ≤ 24) : ∀ i, i ≤ p.length → ∀ z, -((i : Int) * 24000000) ≤ mulO p q N i z ∧ mulO p q N i z ≤ (i : Int) * 24000000
  | 0, _, z => by simp [mulO]
  | i + 1, hi, z => by
    have h := mulO_bnd hp hq hN h24 i (by omega)
    have := mulI_bnd hp hq (N := N) (show i < p.length by omega) h N hN z
    simp only [mulO]
    omega
theorem mulI_all {p q : List Int} (hp : ∀ k, k < p.length → -1000 ≤ p.getD k 0 ∧ p.getD k 0 ≤ 1000) (hq : ∀ k, k < q.length → -1000 ≤ q.getD k 0 ∧ q.getD k 0 ≤ 1000) {N : Nat} (hN : N = q.length) (hM : N = p.length) (h24 : N ≤ 24) (i k : Nat) (hi : i < N) (hk : k ≤ N) (z : Nat) : -1000000000 ≤ mulI p q N i (mulO p q N i) k z ∧ mulI p q N i (mulO p q N i) k z ≤ 1000000000 := by
  have h := mulO_bnd hp hq (N := N) (by omega) h24 i (by omega)
  have := mulI_bnd hp hq (N := N) (show i < p.length by omega) h k (by omega) z
  omega
def mulC (p q : List Int) : List Int := if addB p q = true then rowZ (mulO p q p.length p.length) p.length else []
set_option maxHeartbeats 2000000 in
theorem sMulC (w : World) (a b : Option Addr) (p q : List Int) (n m ca cb : Nat) (hn : n = p.length) (hm : n ≤ 9223372036854775807) (hn2 : m = q.length) (hm2 : m ≤ 9223372036854775807) (hi : Ints w a p) (hj : Ints w b q) :
    Calls Tryz.prog 35 #[.slice a n ca, .slice b m cb] w fun e w' => ∃ v, e = .returned v ∧ w'.ownsRow w.heap.size 3 1 v (mulC p q).length ((mulC p q).map (Value.int .i64)) ∧ Below w.heap.size w w' := by
  obtain ⟨i0, hi0, hz0, hz1, hz2⟩ := info_parts intInfo
  have HI := Lib.hid hi
  have HJ := Lib.hid hj
  have HN := Lib.hid hn
  have HM := Lib.hid hn2
  have HB := Lib.hid (Joins.below_alloc1 w (.cells #[] 3))
  have O0 := Lib.hid (show (w.alloc (.cells #[] 3)).ownsRow w.heap.size 3 1 (.slice (some ⟨w.heap.size, 0, none⟩) 0 0) 0 [] from World.ownsRow_lit (base := w.heap.size) (e := 3) (size := 1) w #[] 0 (by simp) (by simp [maxLen]) rfl)
  clear hi hj hn hn2
  cases hab : addB p q with
  | false =>
    rw [show mulC p q = [] by unfold mulC; rw [if_neg (by simp [hab])]]
    cases hp : cntB p with
    | false =>
      have HP := Lib.hid hp
      clear hab hp
      go_enter Tryz.func35, Tryz.ntmps35
      go_wp2_with (go_at_call 61; refine (sCnts _ _ p _ _ HN.out hm HI.out).mono ?_; rw [HP.out]; rintro e w5 ⟨rfl, rfl⟩)
      go_ret
      exact ⟨_, rfl, O0.out, HB.out⟩
    | true =>
      have HP := Lib.hid hp
      cases hq : cntB q with
      | false =>
        have HQ := Lib.hid hq
        clear hab hp hq
        go_enter Tryz.func35, Tryz.ntmps35
        go_wp2_with (first
          | (go_at_call 61; have hx_ := F5; clear hx_; refine (sCnts _ _ q _ _ HM.out hm2 HJ.out).mono ?_; rw [HQ.out]; rintro e w6 ⟨rfl, rfl⟩)
          | (go_at_call 61; refine (sCnts _ _ p _ _ HN.out hm HI.out).mono ?_; rw [HP.out]; rintro e w5 ⟨rfl, rfl⟩; have F5 := trivial))
        go_ret
        exact ⟨_, rfl, O0.out, HB.out⟩
      | true =>
        have HQ := Lib.hid hq
        have hnm : n ≠ m := fun e => by
          unfold addB at hab
          rw [hp, hq, Bool.true_and, Bool.true_and] at hab
          rw [HN.out, HM.out] at e
          rw [e] at hab
          simp at hab
        have hne : ((n : Int) != (m : Int)) = true := by
          have : (n : Int) ≠ (m : Int) := by omega
          simpa using this
        clear hab hp hq
        go_enter Tryz.func35, Tryz.ntmps35
        go_wp2_with (first
          | (go_at_call 61; have hx_ := F5; clear hx_; refine (sCnts _ _ q _ _ HM.out hm2 HJ.out).mono ?_; rw [HQ.out]; rintro e w6 ⟨rfl, rfl⟩)
          | (go_at_call 61; refine (sCnts _ _ p _ _ HN.out hm HI.out).mono ?_; rw [HP.out]; rintro e w5 ⟨rfl, rfl⟩; have F5 := trivial))
        go_ret
        exact ⟨_, rfl, O0.out, HB.out⟩
  | true =>
    have hp : cntB p = true := by unfold addB at hab; exact (Bool.and_eq_true_iff.1 hab).1
    have hq : cntB q = true := by unfold addB at hab; exact (Bool.and_eq_true_iff.1 (Bool.and_eq_true_iff.1 hab).2).1
    have hl : n = m := by
      unfold addB at hab
      have := (Bool.and_eq_true_iff.1 (Bool.and_eq_true_iff.1 hab).2).2
      rw [beq_iff_eq] at this
      rw [HN.out, HM.out, this]
    subst hl
    rw [show mulC p q = rowZ (mulO p q n n) n by unfold mulC; rw [if_pos hab, HN.out], rowZ_len]
    obtain ⟨bp, n1, n24⟩ := cntB_yes hp
    obtain ⟨bq, _, _⟩ := cntB_yes hq
    have HP := Lib.hid hp
    have HQ := Lib.hid hq
    have HBP := Lib.hid bp
    have HBQ := Lib.hid bq
    have hn24 : n ≤ 24 := by rw [HN.out]; exact n24
    have hn1 : 1 ≤ n := by rw [HN.out]; exact n1
    have HBD := Lib.hid (mulI_all bp bq HM.out HN.out hn24)
    have hne : ((n : Int) != (n : Int)) = false := by simp
    clear hab hp hq bp bq n24 n1
    go_enter Tryz.func35, Tryz.ntmps35
    go_wp2_with (first
      | (at_make; refine wpList_make_full _ rfl _ _ 24 rfl w.heap.size 3 i0 (.int .i64 0) 1 Tryz.underlying24 hi0 hz0 hz1 .i64 .i64 _ _ n rfl rfl (by rfl) (by rfl) (by rw [hz2]; omega) (by unfold maxLen; omega) (Nat.le_refl _) ?_; intro w5 hown hgrow; have B5 := Lib.hid ((Below.refl _ _).grown hgrow (Nat.le_refl _) (fun q hq => by cases hq)); have O5 := Lib.hid hown; have L5 := Lib.hid hown.lt)
      | (go_at_call 61; have hx_ := F5; clear hx_; refine (sCnts _ _ q _ _ HM.out hm2 HJ.out).mono ?_; rw [HQ.out]; rintro e w6 ⟨rfl, rfl⟩)
      | (go_at_call 61; refine (sCnts _ _ p _ _ HN.out hm HI.out).mono ?_; rw [HP.out]; rintro e w5 ⟨rfl, rfl⟩; have F5 := trivial))
    obtain ⟨g5, HGG⟩ : ∃ g5, Hid (w.heap.size = g5) := ⟨_, Lib.hid rfl⟩
    have HG56 : Hid (g5 < w5.heap.size) := Lib.hid (by rw [← HGG.out]; exact (L5.out _ rfl).2)
    have HROW : Hid (w5.ownsRow w.heap.size 3 1 (.slice (some ⟨w.heap.size, 0, none⟩) n n) n (rowV (mulO p q n 0) n)) := Lib.hid (by
      have e : rowV (mulO p q n 0) n = (madeCells #[Value.int .i64 0] n).toList := rowV_zero n
      rw [e]
      have := O5.out
      rw [Nat.mul_one] at this
      exact this)
    rw [HGG.out] at HROW
    rw [HGG.out]
    go_loopw [6] (fun i wr => ∃ k : Nat, k ≤ n ∧ i = .int .i64 k ∧ wr.ownsRow g5 3 1 (.slice (some ⟨g5, 0, none⟩) n n) n (rowV (mulO p q n k) n) ∧ w5.grownBy wr (some g5)) (fun i _ => n - (intOf i).toNat)
    case atStart => exact ⟨0, Nat.zero_le _, rfl, HROW.out, World.grownBy.refl _ _⟩
    case round =>
      obtain ⟨k, hk, rfl, hr, hgr⟩ := hrel
      have HR := Lib.hid hr
      have HGR := Lib.hid hgr
      clear hr hgr
      by_cases hlt : k < n
      · have hkp : k < p.length := by rw [← HN.out]; exact hlt
        rcases HI.out with h0 | ⟨ba, oa, ha, hbl, hc⟩
        · rw [h0] at hkp; simp at hkp
        · subst ha
          have HR1 := Lib.hid (keepC B5.out hbl (hc k hkp))
          have HBLK : Hid (ba < w5.heap.size) := Lib.hid (Nat.lt_of_lt_of_le hbl B5.out.size)
          have HBNE : Hid (ba ≠ g5) := Lib.hid (by have := HGG.out; omega)
          obtain ⟨x1, x2⟩ := HBP.out k hkp
          have HX0 : Hid (∀ j, mulS p q n k j (mulI p q n k (mulO p q n k) j) = mulI p q n k (mulO p q n k) (j + 1)) := Lib.hid (fun j => rfl)
          have HNXT : Hid (mulI p q n k (mulO p q n k) n = mulO p q n (k + 1)) := Lib.hid rfl
          have HST0 : Hid (mulO p q n k = mulI p q n k (mulO p q n k) 0) := Lib.hid rfl
          have HBK : Hid (∀ j, j ≤ n → ∀ z, -1000000000 ≤ mulI p q n k (mulO p q n k) j z ∧ mulI p q n k (mulO p q n k) j z ≤ 1000000000) := Lib.hid (fun j hj z => HBD.out k j hlt hj z)
          unfold mulS at HX0
          obtain ⟨x, hx⟩ : ∃ x, p.getD k 0 = x := ⟨_, rfl⟩
          rw [hx] at HR1 x1 x2 HX0
          clear hc hbl hx hkp
          go_wp2
          go_loopw [7] (fun i wi => ∃ j : Nat, j ≤ n ∧ i = .int .i64 j ∧ wi.ownsRow g5 3 1 (.slice (some ⟨g5, 0, none⟩) n n) n (rowV (mulI p q n k (mulO p q n k) j) n) ∧ w5.grownBy wi (some g5)) (fun i _ => n - (intOf i).toNat)
          case atStart => exact ⟨0, Nat.zero_le _, rfl, by rw [← HST0.out]; exact HR.out, HGR.out⟩
          case round =>
            obtain ⟨j, hj, rfl, hri, hgi⟩ := hrel
            have HGI := Lib.hid hgi
            by_cases hjt : j < n
            · have hjq : j < q.length := by rw [← HM.out]; exact hjt
              rcases HJ.out with h0 | ⟨bb, ob, hb2, hbl2, hc2⟩
              · rw [h0] at hjq; simp at hjq
              · subst hb2
                have HR2 := Lib.hid (keepC B5.out hbl2 (hc2 j hjq))
                have HB2 : Hid (bb < w5.heap.size) := Lib.hid (Nat.lt_of_lt_of_le hbl2 B5.out.size)
                have HN2 : Hid (bb ≠ g5) := Lib.hid (by have := HGG.out; omega)
                obtain ⟨y1, y2⟩ := HBQ.out j hjq
                have hx1 := HX0.out j
                obtain ⟨y, hy⟩ : ∃ y, q.getD j 0 = y := ⟨_, rfl⟩
                rw [hy] at HR2 y1 y2 hx1
                obtain ⟨z, hz⟩ : ∃ z : Nat, (k + j) % n = z := ⟨_, rfl⟩
                have hzn : z < n := by rw [← hz]; exact Nat.mod_lt _ (by omega)
                have hZ : ((k : Int) + (j : Int)) % (n : Int) = (z : Int) := by rw [← hz]; simp
                have hZt : Int.tmod ((k : Int) + (j : Int)) (n : Int) = (z : Int) := by rw [Int.tmod_eq_emod_of_nonneg (by omega)]; exact hZ
                have hnz : ((n : Int) = 0) = False := by simp; omega
                have hnz0 : ((n : Int) == 0) = false := by simp; omega
                have hnz1 : ¬ (n : Int) = 0 := by omega
                have hsum : IntKind.i64.wrap ((k : Int) + (j : Int)) = (k : Int) + (j : Int) := by rw [IntKind.wrap_i64]; omega
                have hwz : IntKind.i64.wrap (z : Int) = (z : Int) := by rw [IntKind.wrap_i64]; omega
                have hzi : (z : Int) < (n : Int) := by omega
                rw [hz] at hx1
                obtain ⟨f1, f2⟩ := HBK.out j hj z
                obtain ⟨F, HF⟩ : ∃ F, Hid (mulI p q n k (mulO p q n k) j = F) := ⟨_, Lib.hid rfl⟩
                rw [HF.out] at hx1 f1 f2 hri
                have HX1 := Lib.hid hx1
                obtain ⟨m1, m2⟩ := prod_bnd7 x1 x2 y1 y2
                have hrd := hri.drew
                have hfr := hrd.frozenAt z
                have hcell := (hrd.cellAt z (by omega)).trans (rowV_at F n z hzn)
                have hst := (hrd.stored z (.int .i64 (F z + x * y))).1
                rw [rowV_set F n z hzn, HX1.out] at hst
                have HST := Lib.hid hst
                obtain ⟨fz, HFZ⟩ : ∃ fz, Hid (F z = fz) := ⟨_, Lib.hid rfl⟩
                rw [HFZ.out] at hcell HST f1 f2
                have hwm : IntKind.i64.wrap (x * y) = x * y := by rw [IntKind.wrap_i64]; omega
                have hwa : IntKind.i64.wrap (fz + x * y) = fz + x * y := by rw [IntKind.wrap_i64]; omega
                have HGD := Lib.hid (grownG_trans hgi (below_grown (Below.refl _ _).drew (some g5)))
                have HGS := Lib.hid (grownG_set HGD.out z (.int .i64 (fz + x * y)))
                have d1 := cell_grown7 HGD.out HBLK.out HBNE.out HR1.out
                have d2 := cell_grown7 HGD.out HB2.out HN2.out HR2.out
                have e1 := cell_grown7 HGS.out HBLK.out HBNE.out HR1.out
                have e2 := cell_grown7 HGS.out HB2.out HN2.out HR2.out
                clear hgi hc2 hjq hy hst hx1 hri hrd hz
                go_wp2
                go_region_with (fail)
                all_goals
                  go_wp2
                  go_roundw
                  case rel => exact ⟨j + 1, by omega, by go_num, by first | exact HST.out | simpa using HST.out, HGS.out⟩
                  case measure => simp [intOf]; omega
            · obtain rfl : j = n := by omega
              have HRI := Lib.hid hri
              clear hgi hri
              go_wp2
              go_roundw
              case rel => exact ⟨k + 1, by omega, by go_num, by rw [← HNXT.out]; exact HRI.out, HGI.out⟩
              case measure => simp [intOf]; omega
      · obtain rfl : k = n := by omega
        have hgg := HGG.out
        subst hgg
        go_wp2
        go_ret
        exact ⟨_, rfl, HR.out, B5.out.grown HGR.out B5.out.size (fun q hq => by cases hq; exact Nat.le_refl _)⟩
end Go.Proofs.YthlpjiibjlaebaaGreatDoor
