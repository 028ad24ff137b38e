/- The program's own counts: checked, added, multiplied. -/
import Derived.Test.YticgoodmfjjggaaDoorCHB
import Derived.Test.YticgoodmfjjggaaDoorGrpImpl
namespace Go.Proofs.YticgoodmfjjggaaDoor
open Go.RowKit
set_option maxRecDepth 1000000
/-- The first k sums, and zeros behind them. -/
def addF (p q : List Int) (k : Nat) : Nat → Int := fun z => if z < k then p.getD z 0 + q.getD z 0 else 0
theorem addF_set (p q : List Int) (n k : Nat) : (rowV (addF p q k) n).set k (.int .i64 (p.getD k 0 + q.getD k 0)) = rowV (addF p q (k + 1)) n := by
  apply List.ext_getElem?
  intro j
  unfold rowV rowZ addF
  by_cases hjn : j < n
  · by_cases e : k = j
    · subst e
      simp [hjn]
    · have h1 : j < k ↔ j < k + 1 := by omega
      simp [e, hjn, h1]
  · have : n ≤ j := by omega
    by_cases e : k = j
    · subst e; simp [hjn]
    · simp [this]
theorem addF_full (p q : List Int) (n : Nat) : rowZ (addF p q n) n = addK p q n := by
  unfold rowZ addF addK
  refine List.map_congr_left fun z hz => ?_
  rw [List.mem_range] at hz
  rw [if_pos hz]
theorem own_nil0 (w : World) (B : Nat) : w.ownsRow B 3 1 (.slice none 0 0) 0 [] := ⟨rfl, .inl ⟨rfl, rfl⟩⟩
theorem prod_bnd9 {x y : Int} (x1 : -1000000000 ≤ x) (x2 : x ≤ 1000000000) (y1 : -1000 ≤ y) (y2 : y ≤ 1000) : -1000000000000 ≤ x * y ∧ x * y ≤ 1000000000000 := by
  have h : (x * y).natAbs ≤ 1000000000 * 1000 := by
    rw [Int.natAbs_mul]
    exact Nat.mul_le_mul (by omega) (by omega)
  omega
theorem mulI_bnd9 {p q : List Int} (hp : ∀ k, k < p.length → -1000000000 ≤ p.getD k 0 ∧ p.getD k 0 ≤ 1000000000) (hq : ∀ k, k < q.length → -1000 ≤ q.getD k 0 ∧ q.getD k 0 ≤ 1000) {N i : Nat} (hi : i < p.length) {f : Nat → Int} {B : Int} (hf : ∀ z, -B ≤ f z ∧ f z ≤ B) : ∀ k, k ≤ q.length → ∀ z, -(B + k * 1000000000000) ≤ mulI p q N i f k z ∧ mulI p q N i f k z ≤ B + k * 1000000000000
  | 0, _, z => by have := hf z; simp only [mulI]; omega
  | k + 1, hk, z => by
    have h := mulI_bnd9 hp hq (N := N) hi hf k (by omega) z
    have h2 := prod_bnd9 (hp i hi).1 (hp i hi).2 (hq k (by omega)).1 (hq k (by omega)).2
    simp only [mulI, mulS]
    split <;> omega
theorem mulO_bnd9 {p q : List Int} (hp : ∀ k, k < p.length → -1000000000 ≤ p.getD k 0 ∧ p.getD k 0 ≤ 1000000000) (hq : ∀ k, k < q.length → -1000 ≤ q.getD k 0 ∧ q.getD k 0 ≤ 1000) {N : Nat} (hN : N ≤ q.length) (h24 : N ≤ 24) : ∀ i, i ≤ p.length → ∀ z, -((i : Int) * 24000000000000) ≤ mulO p q N i z ∧ mulO p q N i z ≤ (i : Int) * 24000000000000
  | 0, _, z => by simp [mulO]
  | i + 1, hi, z => by
    have h := mulO_bnd9 hp hq hN h24 i (by omega)
    have := mulI_bnd9 hp hq (N := N) (show i < p.length by omega) h N hN z
    simp only [mulO]
    omega
theorem mulI_all9 {p q : List Int} (hp : ∀ k, k < p.length → -1000000000 ≤ p.getD k 0 ∧ p.getD k 0 ≤ 1000000000) (hq : ∀ k, k < q.length → -1000 ≤ q.getD k 0 ∧ q.getD k 0 ≤ 1000) {N : Nat} (hN : N = q.length) (hM : N = p.length) (h24 : N ≤ 24) (i k : Nat) (hi : i < N) (hk : k ≤ N) (z : Nat) : -1000000000000000 ≤ mulI p q N i (mulO p q N i) k z ∧ mulI p q N i (mulO p q N i) k z ≤ 1000000000000000 := by
  have h := mulO_bnd9 hp hq (N := N) (by omega) h24 i (by omega)
  have := mulI_bnd9 hp hq (N := N) (show i < p.length by omega) h k (by omega) z
  omega
set_option maxHeartbeats 2000000 in
theorem iCyc (w : World) (a b : Option Addr) (p q : List Int) (n ca cb : Nat) (hn : n = p.length) (hn2 : n = q.length) (hn1 : 1 ≤ n) (hn24 : n ≤ 24) (bp : ∀ k, k < p.length → -1000000000 ≤ p.getD k 0 ∧ p.getD k 0 ≤ 1000000000) (bq : ∀ k, k < q.length → -1000 ≤ q.getD k 0 ∧ q.getD k 0 ≤ 1000) (hi : Ints w a p) (hj : Ints w b q) :
    Calls Tryd.prog 36 #[.slice a n ca, .slice b n cb] w fun e w' => e = .returned (.slice (some ⟨w.heap.size, 0, none⟩) n n) ∧ w'.ownsRow w.heap.size 3 1 (.slice (some ⟨w.heap.size, 0, none⟩) n n) n (rowV (mulO p q n n) n) ∧ Below w.heap.size w w' := by
  obtain ⟨i0, hi0, hz0, hz1, hz2⟩ := info_parts intInfo
  have HI := Lib.hid hi
  have HJ := Lib.hid hj
  have HN := Lib.hid hn
  have HM := Lib.hid hn2
  have HBP := Lib.hid bp
  have HBQ := Lib.hid bq
  have HBD := Lib.hid (mulI_all9 bp bq HM.out HN.out hn24)
  clear hi hj hn hn2 bp bq
  go_enter Tryd.func36, Tryd.ntmps36
  go_wp2_with (at_make; refine wpList_make_full _ rfl _ _ 22 rfl w.heap.size 3 i0 (.int .i64 0) 1 Tryd.underlying22 hi0 hz0 hz1 .i64 .i64 _ _ n rfl rfl (by rfl) (by rfl) (by rw [hz2]; omega) (by unfold maxLen; omega) (Nat.le_refl _) ?_; intro w5 hown hgrow; have B5 := Lib.hid ((Below.refl _ _).grown hgrow (Nat.le_refl _) (fun q hq => by cases hq)); have O5 := Lib.hid hown; have L5 := Lib.hid hown.lt)
  obtain ⟨g5, HGG⟩ : ∃ g5, Hid (w.heap.size = g5) := ⟨_, Lib.hid rfl⟩
  have HG56 : Hid (g5 < w5.heap.size) := Lib.hid (by rw [← HGG.out]; exact (L5.out _ rfl).2)
  have HROW : Hid (w5.ownsRow w.heap.size 3 1 (.slice (some ⟨w.heap.size, 0, none⟩) n n) n (rowV (mulO p q n 0) n)) := Lib.hid (by
    have e : rowV (mulO p q n 0) n = (madeCells #[Value.int .i64 0] n).toList := rowV_zero n
    rw [e]
    have := O5.out
    rw [Nat.mul_one] at this
    exact this)
  rw [HGG.out] at HROW
  rw [HGG.out]
  go_loopw [15] (fun i wr => ∃ k : Nat, k ≤ n ∧ i = .int .i64 k ∧ wr.ownsRow g5 3 1 (.slice (some ⟨g5, 0, none⟩) n n) n (rowV (mulO p q n k) n) ∧ w5.grownBy wr (some g5)) (fun i _ => n - (intOf i).toNat)
  case atStart => exact ⟨0, Nat.zero_le _, rfl, HROW.out, World.grownBy.refl _ _⟩
  case round =>
    obtain ⟨k, hk, rfl, hr, hgr⟩ := hrel
    have HR := Lib.hid hr
    have HGR := Lib.hid hgr
    by_cases hlt : k < n
    · have hkp : k < p.length := by rw [← HN.out]; exact hlt
      rcases HI.out with h0 | ⟨ba, oa, ha, hbl, hc⟩
      · rw [h0] at hkp; simp at hkp
      · subst ha
        have r0 := cell_grown7 hgr (Nat.lt_of_lt_of_le hbl B5.out.size) (by have := HGG.out; omega) (keepC B5.out hbl (hc k hkp))
        obtain ⟨x1, x2⟩ := HBP.out k hkp
        have HX0 : Hid (∀ j, mulS p q n k j (mulI p q n k (mulO p q n k) j) = mulI p q n k (mulO p q n k) (j + 1)) := Lib.hid (fun j => rfl)
        have HNXT : Hid (mulI p q n k (mulO p q n k) n = mulO p q n (k + 1)) := Lib.hid rfl
        have HST0 : Hid (mulO p q n k = mulI p q n k (mulO p q n k) 0) := Lib.hid rfl
        have HBK : Hid (∀ j, j ≤ n → ∀ z, -1000000000000000 ≤ mulI p q n k (mulO p q n k) j z ∧ mulI p q n k (mulO p q n k) j z ≤ 1000000000000000) := Lib.hid (fun j hj z => HBD.out k j hlt hj z)
        unfold mulS at HX0
        obtain ⟨x, hx⟩ : ∃ x, p.getD k 0 = x := ⟨_, rfl⟩
        rw [hx] at r0 x1 x2 HX0
        clear hc hbl hx hkp hr hgr
        go_wp2
        go_loopw [22] (fun i wi => ∃ j : Nat, j ≤ n ∧ i = .int .i64 j ∧ wi.ownsRow g5 3 1 (.slice (some ⟨g5, 0, none⟩) n n) n (rowV (mulI p q n k (mulO p q n k) j) n) ∧ w5.grownBy wi (some g5)) (fun i _ => n - (intOf i).toNat)
        case atStart => exact ⟨0, Nat.zero_le _, rfl, by rw [← HST0.out]; exact HR.out, HGR.out⟩
        case round =>
          obtain ⟨j, hj, rfl, hri, hgi⟩ := hrel
          have HGI := Lib.hid hgi
          by_cases hjt : j < n
          · have hjq : j < q.length := by rw [← HM.out]; exact hjt
            rcases HJ.out with h0 | ⟨bb, ob, hb2, hbl2, hc2⟩
            · rw [h0] at hjq; simp at hjq
            · subst hb2
              have r2 := cell_grown7 hgi (Nat.lt_of_lt_of_le hbl2 B5.out.size) (by have := HGG.out; omega) (keepC B5.out hbl2 (hc2 j hjq))
              obtain ⟨y1, y2⟩ := HBQ.out j hjq
              have hx1 := HX0.out j
              obtain ⟨y, hy⟩ : ∃ y, q.getD j 0 = y := ⟨_, rfl⟩
              rw [hy] at r2 y1 y2 hx1
              obtain ⟨z, hz⟩ : ∃ z : Nat, (k + j) % n = z := ⟨_, rfl⟩
              have hzn : z < n := by rw [← hz]; exact Nat.mod_lt _ (by omega)
              have hZ : ((k : Int) + (j : Int)) % (n : Int) = (z : Int) := by rw [← hz]; simp
              have hnz : ((n : Int) = 0) = False := by simp; omega
              have hnz0 : ((n : Int) == 0) = false := by simp; omega
              have hnz1 : ¬ (n : Int) = 0 := by omega
              have hzi : (z : Int) < (n : Int) := by omega
              rw [hz] at hx1
              obtain ⟨f1, f2⟩ := HBK.out j hj z
              obtain ⟨G, HF⟩ : ∃ G, Hid (mulI p q n k (mulO p q n k) j = G) := ⟨_, Lib.hid rfl⟩
              rw [HF.out] at hx1 f1 f2 hri
              have HX1 := Lib.hid hx1
              obtain ⟨m1, m2⟩ := prod_bnd9 x1 x2 y1 y2
              have hfr := hri.frozenAt z
              have hcell := (hri.cellAt z (by omega)).trans (rowV_at G n z hzn)
              have hst := (hri.stored z (.int .i64 (G z + x * y))).1
              rw [rowV_set G n z hzn, HX1.out] at hst
              obtain ⟨fz, HFZ⟩ : ∃ fz, Hid (G z = fz) := ⟨_, Lib.hid rfl⟩
              rw [HFZ.out] at hcell hst f1 f2
              have HST := Lib.hid hst
              have HGS := Lib.hid (grownG_set hgi z (.int .i64 (fz + x * y)))
              clear hgi hc2 hbl2 hjq hy hst hx1 hri hz
              go_wp2
              go_roundw
              case rel => exact ⟨j + 1, by omega, by go_num, by first | exact HST.out | simpa using HST.out, HGS.out⟩
              case measure => simp [intOf]; omega
          · obtain rfl : j = n := by omega
            have HRI := Lib.hid hri
            clear hgi hri
            go_wp2
            go_roundw
            case rel => exact ⟨k + 1, by omega, by go_num, by rw [← HNXT.out]; exact HRI.out, HGI.out⟩
            case measure => simp [intOf]; omega
    · obtain rfl : k = n := by omega
      have hgg := HGG.out
      subst hgg
      clear hr hgr
      go_wp2
      go_ret
      exact ⟨rfl, HR.out, B5.out.grown HGR.out B5.out.size (fun q hq => by cases hq; exact Nat.le_refl _)⟩
end Go.Proofs.YticgoodmfjjggaaDoor
