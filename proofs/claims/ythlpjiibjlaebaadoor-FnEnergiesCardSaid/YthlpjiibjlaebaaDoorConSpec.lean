/- The document's reading of products of tables. -/
import Derived.Test.YthlpjiibjlaebaaDoorConMath
import Derived.Test.YthlpjiibjlaebaaDoorMGAD
import Derived.Test.YthlpjiibjlaebaaDoorMGAA
import Derived.OwnWalk
import Derived.Deep.RegionWith
import Derived.Deep.RegionLaw
namespace Go.Proofs.YthlpjiibjlaebaaDoor
open Go.RowKit
set_option maxRecDepth 1000000
def zrowV (f : Nat → Int) (n : Nat) : List Value := (zrow f n).map (Value.int .i64)
theorem zrowV_len (f : Nat → Int) (n : Nat) : (zrowV f n).length = n := by simp [zrowV, zrow_len]
theorem zrowV_zero (n : Nat) : zrowV (fun _ => 0) n = (madeCells #[Value.int .i64 0] n).toList := by
  rw [toList_madeCells_one]
  unfold zrowV zrow
  rw [List.map_map]
  apply List.ext_getElem <;> simp
theorem zrowV_at (f : Nat → Int) (n k : Nat) (h : k < n) : (zrowV f n)[k]? = some (.int .i64 (f k)) := by
  unfold zrowV zrow
  simp [h]
theorem zrowV_set (f : Nat → Int) (n k : Nat) (h : k < n) (d : Int) : (zrowV f n).set k (.int .i64 (f k + d)) = zrowV (fun z => f z + (if k = z then d else 0)) n := by
  apply List.ext_getElem?
  intro j
  unfold zrowV zrow
  by_cases hjn : j < n
  · by_cases e : k = j
    · subst e
      simp [h]
    · simp [e, hjn]
  · have : n ≤ j := by omega
    by_cases e : k = j
    · omega
    · simp [this]
theorem cell_grown8 {w w' : World} {g : Nat} (h : w.grownBy w' (some g)) {b k : Nat} (hb : b < w.heap.size) (hne : b ≠ g) {v : Option Value} (c : w.cell? ⟨b, k, none⟩ = v) : w'.cell? ⟨b, k, none⟩ = v := by
  rw [← c]
  unfold World.cell?
  simp only
  rw [h.block b hb (fun e => hne (by cases e; rfl))]
theorem _root_.Go.World.ownsRow.shrink8 {w : World} {B C n : Nat} {v : Value} {xs : List Value} (h : w.ownsRow B 3 1 v n xs) (hc : C ≤ B) : w.ownsRow C 3 1 v n xs := by
  obtain ⟨h1, h2⟩ := h
  refine ⟨h1, ?_⟩
  rcases h2 with h2 | ⟨g, cap, cur, e, a1, rest⟩
  · exact .inl h2
  · exact .inr ⟨g, cap, cur, e, Nat.le_trans hc a1, rest⟩
set_option maxHeartbeats 2000000 in
theorem sTbl (w : World) (a b : Option Addr) (l p : List Int) (n cap m cb : Nat) (hn : n = l.length) (hm : n ≤ 9223372036854775807) (hi : Ints w a l) (hn2 : m = p.length) (hm2 : m ≤ 9223372036854775807) (hj : Ints w b p) :
    Calls Tryd.prog 100 #[.agg #[.slice a n cap], .slice b m cb] w fun e w' => e = .returned (.bool (tbB l p)) ∧ Below w.heap.size w w' := by
  have HI := Lib.hid (ints_alloc hi (.cells #[.slice a n cap] 26))
  have HN := Lib.hid hn
  have C1 := newC w (.slice a n cap) 26 (n := w.heap.size) rfl
  have HB := Lib.hid (Joins.below_alloc1 w (.cells #[.slice a n cap] 26))
  have T0 := Lib.hid (Below.refl (w.alloc (.cells #[.slice a n cap] 26)).heap.size (w.alloc (.cells #[.slice a n cap] 26)))
  have HJ := Lib.hid (ints_alloc hj (.cells #[.slice a n cap] 26))
  have HM := Lib.hid hn2
  have HNO := Lib.hid (fun k (hk : k < p.length) h => tbB_no (l := l) hk h)
  have HAL := Lib.hid (fun h => tbB_all (l := l) (p := p) h)
  obtain ⟨r, hr⟩ : ∃ r, tbB l p = r := ⟨_, rfl⟩
  rw [hr] at HNO HAL
  rw [hr]
  clear hi hn hj hn2 hr
  go_enter Tryd.func100, Tryd.ntmps100
  go_wp2
  go_loopw [5] (fun i wr => ∃ k : Nat, k ≤ m ∧ i = .int .i64 k ∧ Hid (∀ j, j < k → tOk (p.getD j 0) = true) ∧ (w.alloc (.cells #[.slice a n cap] 26)) = wr) (fun i _ => m - (intOf i).toNat)
  case atStart => exact ⟨0, Nat.zero_le _, rfl, Lib.hid (fun j hj => absurd hj (by omega)), rfl⟩
  case round =>
    obtain ⟨k, hk, rfl, HOK, rfl⟩ := hrel
    by_cases hlt : k < m
    · have hkl : k < p.length := by rw [← HM.out]; exact hlt
      rcases HJ.out with h0 | ⟨bb, off, ha, hbl, hc⟩
      · rw [h0] at hkl; simp at hkl
      · subst ha
        have r1 := hc k hkl
        have HNK := Lib.hid (HNO.out k hkl)
        have HNX : Hid (tOk (p.getD k 0) = true → ∀ j, j < k + 1 → tOk (p.getD j 0) = true) := Lib.hid (fun h j hj => by
          by_cases hjk : j < k
          · exact HOK.out j hjk
          · obtain rfl : j = k := by omega
            exact h)
        obtain ⟨x, hx⟩ : ∃ x, p.getD k 0 = x := ⟨_, rfl⟩
        rw [hx] at r1 HNK HNX
        clear hc hkl hbl hx
        cases hok : tOk x with
        | true =>
          have HE : Hid (true = (decide (-10000 ≤ x) && decide (x ≤ 10000))) := Lib.hid hok.symm
          have HN2 := Lib.hid (HNX.out hok)
          clear hok HNK HNX
          go_wp2_with (go_at_call 73; refine (sIn _ _ _ _ _ HE.out).mono ?_; rintro e w5 ⟨rfl, rfl⟩)
          go_roundw
          case rel => exact ⟨k + 1, by omega, by go_num, HN2, by first | trivial | rfl⟩
          case measure => simp [intOf]; omega
        | false =>
          have HE : Hid (false = (decide (-10000 ≤ x) && decide (x ≤ 10000))) := Lib.hid hok.symm
          have hrr := HNK.out hok
          subst hrr
          clear hok HNK HNX
          go_wp2_with (go_at_call 73; refine (sIn _ _ _ _ _ HE.out).mono ?_; rintro e w5 ⟨rfl, rfl⟩)
          go_ret
          exact ⟨rfl, HB.out⟩
    · obtain rfl : k = m := by omega
      have HE := Lib.hid (HAL.out (fun j hj => HOK.out j (by rw [HM.out]; exact hj)))
      cases hg : grpB l with
      | false =>
        have HG := Lib.hid hg
        have hrr : r = false := by rw [HE.out, hg]; rfl
        subst hrr
        clear hg
        go_wp2_with (go_at_call 105; refine (sIsGroup _ _ _ _ _ HN.out hm HI.out).mono ?_; rw [HG.out]; rintro e w5 ⟨rfl, hb5⟩)
        go_ret
        exact ⟨rfl, HB.out.trans (hb5.mono (by simp))⟩
      | true =>
        have HG := Lib.hid hg
        have hrr : r = decide (((k : Nat) : Int) = prodI l) := by rw [HE.out, hg, HM.out]; rfl
        have HRR := Lib.hid hrr
        obtain ⟨P, HP⟩ : ∃ P, Hid (prodI l = P) := ⟨_, Lib.hid rfl⟩
        rw [HP.out] at HRR
        have hde : decide (((k : Nat) : Int) = P) = (((k : Nat) : Int) == P) := by by_cases h : ((k : Nat) : Int) = P <;> simp [h]
        have HDE := Lib.hid hde
        clear hg hrr hde
        go_wp2_with (first
          | (go_at_call 91; refine (sOrder _ _ _ _ _ HN.out HG.out (HI.out.below rfl B5.out)).mono ?_; rw [HP.out]; rintro e w6 ⟨rfl, hb6⟩)
          | (go_at_call 105; refine (sIsGroup _ _ _ _ _ HN.out hm HI.out).mono ?_; rw [HG.out]; rintro e w5 ⟨rfl, hb5⟩; have B5 := Lib.hid hb5; have c5 := keepC hb5 (by simp) C1))
        go_ret
        exact ⟨by rw [HRR.out, HDE.out]; rfl, HB.out.trans ((B5.out.trans (hb6.mono B5.out.size)).mono (by simp))⟩
set_option maxHeartbeats 4000000 in
theorem sCnv (w : World) (a b c : Option Addr) (l p q : List Int) (n cap m cb k3 cc : Nat) (hn : n = l.length) (hm : n ≤ 9223372036854775807) (hi : Ints w a l) (hn2 : m = p.length) (hm2 : m ≤ 9223372036854775807) (hj : Ints w b p) (hn3 : k3 = q.length) (hm3 : k3 ≤ 9223372036854775807) (hl : Ints w c q) :
    Calls Tryd.prog 45 #[.agg #[.slice a n cap], .slice b m cb, .slice c k3 cc] w fun e w' => ∃ v, e = .returned v ∧ w'.ownsRow w.heap.size 3 1 v (cvE l p q).length ((cvE l p q).map (Value.int .i64)) ∧ Below w.heap.size w w' := by
  have HI := Lib.hid (ints_alloc hi (.cells #[.slice a n cap] 26))
  have HN := Lib.hid hn
  have C1 := newC w (.slice a n cap) 26 (n := w.heap.size) rfl
  have HB := Lib.hid (Joins.below_alloc1 w (.cells #[.slice a n cap] 26))
  have T0 := Lib.hid (Below.refl (w.alloc (.cells #[.slice a n cap] 26)).heap.size (w.alloc (.cells #[.slice a n cap] 26)))
  have HJ := Lib.hid (ints_alloc hj (.cells #[.slice a n cap] 26))
  have HL := Lib.hid (ints_alloc hl (.cells #[.slice a n cap] 26))
  have HM := Lib.hid hn2
  have HK := Lib.hid hn3
  obtain ⟨i0, hi0, hz0, hz1, hz2⟩ := info_parts intInfo
  clear hi hn hj hn2 hl hn3
  cases hab : cvB l p q with
  | false =>
    rw [show cvE l p q = [] by unfold cvE; rw [if_neg (by simp [hab])]]
    cases hp : tbB l p with
    | false =>
      have HP := Lib.hid hp
      clear hab hp
      go_enter Tryd.func45, Tryd.ntmps45
      go_wp2_with (go_at_call 100; refine (sTbl _ _ _ l p _ _ _ _ HN.out hm (HI.out.below rfl T0.out) HM.out hm2 (HJ.out.below rfl T0.out)).mono ?_; rw [HP.out]; rintro e w2 ⟨rfl, hb2⟩; have T2 := Lib.hid (T0.out.trans (hb2.mono T0.out.size)); have c2 := keepC T2.out (by simp) C1)
      go_ret
      exact ⟨_, rfl, by simpa using World.ownsRow_lit (base := w.heap.size) (e := 3) (size := 1) w2 #[] 0 (Nat.le_trans (by simp) T2.out.size) (by simp [maxLen]) rfl, HB.out.trans ((T2.out.mono (by simp)).alloc (Nat.le_trans (by simp) T2.out.size) _)⟩
    | true =>
      have HP := Lib.hid hp
      have hq : tbB l q = false := by
        unfold cvB at hab
        rw [hp, Bool.true_and] at hab
        exact hab
      have HQ := Lib.hid hq
      clear hab hp hq
      go_enter Tryd.func45, Tryd.ntmps45
      go_wp2_with (first
        | (go_at_call 100; have hx_ := T2; clear hx_; refine (sTbl _ _ _ l q _ _ _ _ HN.out hm (HI.out.below rfl T2.out) HK.out hm3 (HL.out.below rfl T2.out)).mono ?_; rw [HQ.out]; rintro e w3 ⟨rfl, hb3⟩; have T3 := Lib.hid (T2.out.trans (hb3.mono T2.out.size)); have c3 := keepC T3.out (by simp) C1)
        | (go_at_call 100; refine (sTbl _ _ _ l p _ _ _ _ HN.out hm (HI.out.below rfl T0.out) HM.out hm2 (HJ.out.below rfl T0.out)).mono ?_; rw [HP.out]; rintro e w2 ⟨rfl, hb2⟩; have T2 := Lib.hid (T0.out.trans (hb2.mono T0.out.size)); have c2 := keepC T2.out (by simp) C1))
      go_ret
      exact ⟨_, rfl, by simpa using World.ownsRow_lit (base := w.heap.size) (e := 3) (size := 1) w3 #[] 0 (Nat.le_trans (by simp) T3.out.size) (by simp [maxLen]) rfl, HB.out.trans ((T3.out.mono (by simp)).alloc (Nat.le_trans (by simp) T3.out.size) _)⟩
  | true =>
    have hp : tbB l p = true := by unfold cvB at hab; exact (Bool.and_eq_true_iff.1 hab).1
    have hq : tbB l q = true := by unfold cvB at hab; exact (Bool.and_eq_true_iff.1 hab).2
    obtain ⟨bp, hg, lp⟩ := tbB_yes hp
    obtain ⟨bq, _, lq⟩ := tbB_yes hq
    have hP := (ords_grp hg).prod
    have hl : k3 = m := by have h1 := HM.out; have h2 := HK.out; omega
    subst hl
    have hk24 : k3 ≤ 24 := by have h1 := HM.out; omega
    have hk1 : 1 ≤ k3 := by have h1 := HM.out; omega
    have HPN : Hid (prodI l = (k3 : Int)) := Lib.hid (by rw [HM.out]; exact lp.symm)
    have HRES : Hid (cvE l p q = zrow (cvO l p q k3 k3) k3) := Lib.hid (by unfold cvE; rw [if_pos hab, ← HM.out])
    rw [HRES.out, zrow_len]
    have HP := Lib.hid hp
    have HQ := Lib.hid hq
    have HBP := Lib.hid bp
    have HBQ := Lib.hid bq
    have HG := Lib.hid hg
    have HBD := Lib.hid (cvI_all (l := l) bp bq HK.out HM.out hk24)
    have HEL : Hid (∀ x y : Int, 0 ≤ addN l x y ∧ addN l x y < (k3 : Int)) := Lib.hid (fun x y => by have := addN_in (ords_grp hg) x y; rw [HPN.out] at this; exact this)
    clear hab hp hq bp bq hg lp lq hP
    go_enter Tryd.func45, Tryd.ntmps45
    go_wp2_with (first
      | (at_make; refine wpList_make_full _ rfl _ _ 24 rfl w.heap.size 3 i0 (.int .i64 0) 1 Tryd.underlying24 hi0 hz0 hz1 .i64 .i64 _ _ k3 rfl rfl (by rfl) (by rfl) (by rw [hz2]; omega) (by unfold maxLen; omega) (Nat.le_trans (by simp) T3.out.size) ?_; intro w5 hown hgrow; have T5 := Lib.hid (T3.out.grown hgrow T3.out.size (fun q hq => by cases hq)); have c5 := keepC T5.out (by simp) C1; have O5 := Lib.hid hown; have L5 := Lib.hid hown.lt)
      | (go_at_call 100; have hx_ := T2; clear hx_; refine (sTbl _ _ _ l q _ _ _ _ HN.out hm (HI.out.below rfl T2.out) HK.out hm3 (HL.out.below rfl T2.out)).mono ?_; rw [HQ.out]; rintro e w3 ⟨rfl, hb3⟩; have T3 := Lib.hid (T2.out.trans (hb3.mono T2.out.size)); have c3 := keepC T3.out (by simp) C1)
      | (go_at_call 100; refine (sTbl _ _ _ l p _ _ _ _ HN.out hm (HI.out.below rfl T0.out) HM.out hm2 (HJ.out.below rfl T0.out)).mono ?_; rw [HP.out]; rintro e w2 ⟨rfl, hb2⟩; have T2 := Lib.hid (T0.out.trans (hb2.mono T0.out.size)); have c2 := keepC T2.out (by simp) C1))
    obtain ⟨g5, HGG⟩ : ∃ g5, Hid (w3.heap.size = g5) := ⟨_, Lib.hid rfl⟩
    have HG5 : Hid (w.heap.size + 1 ≤ g5) := Lib.hid (by rw [← HGG.out]; exact Nat.le_trans (by simp) T3.out.size)
    have HG56 : Hid (g5 < w5.heap.size) := Lib.hid (by rw [← HGG.out]; exact (L5.out _ rfl).2)
    have HROW : Hid (w5.ownsRow w.heap.size 3 1 (.slice (some ⟨w3.heap.size, 0, none⟩) k3 k3) k3 (zrowV (cvO l p q k3 0) k3)) := Lib.hid (by
      have e : zrowV (cvO l p q k3 0) k3 = (madeCells #[Value.int .i64 0] k3).toList := zrowV_zero k3
      rw [e]
      have := O5.out
      rw [Nat.mul_one] at this
      exact this)
    rw [HGG.out] at HROW
    rw [HGG.out]
    have HJ5 := Lib.hid (HJ.out.below rfl T5.out)
    have HL5 := Lib.hid (HL.out.below rfl T5.out)
    have HBL : Hid (∀ (a' : Option Addr) (l' : List Int), Ints (w.alloc (.cells #[.slice a n cap] 26)) a' l' → ∀ k, k < l'.length → ∃ bb off, a' = some ⟨bb, off, none⟩ ∧ bb < w5.heap.size ∧ bb ≠ g5 ∧ w5.cell? ⟨bb, off + k, none⟩ = some (.int .i64 (l'.getD k 0))) := Lib.hid (fun a' l' h k hk => by
      rcases h with h0 | ⟨bb, off, ha, hbl, hc⟩
      · rw [h0] at hk; simp at hk
      · refine ⟨bb, off, ha, Nat.lt_of_lt_of_le hbl T5.out.size, ?_, keepC T5.out hbl (hc k hk)⟩
        have := HG5.out
        simp at hbl
        omega)
    go_loopw [8] (fun i wr => ∃ k : Nat, k ≤ k3 ∧ i = .int .i64 k ∧ wr.ownsRow w.heap.size 3 1 (.slice (some ⟨g5, 0, none⟩) k3 k3) k3 (zrowV (cvO l p q k3 k) k3) ∧ w5.grownBy wr (some g5)) (fun i _ => k3 - (intOf i).toNat)
    case atStart => exact ⟨0, Nat.zero_le _, rfl, HROW.out, World.grownBy.refl _ _⟩
    case round =>
      obtain ⟨k, hk, rfl, hr, hgr⟩ := hrel
      have HR := Lib.hid hr
      have HGR := Lib.hid hgr
      clear hr hgr
      by_cases hlt : k < k3
      · obtain ⟨ba, oa, hba, hbal, hbag, hpc⟩ := HBL.out _ _ HJ.out k (by rw [← HM.out]; exact hlt)
        subst hba
        have HR1 := Lib.hid hpc
        have HA1 := Lib.hid (And.intro hbal hbag)
        obtain ⟨x1, x2⟩ := HBP.out k (by rw [← HM.out]; exact hlt)
        have HX0 : Hid (∀ j, cvS l p q k j (cvI l p q k (cvO l p q k3 k) j) = cvI l p q k (cvO l p q k3 k) (j + 1)) := Lib.hid (fun j => rfl)
        have HNXT : Hid (cvI l p q k (cvO l p q k3 k) k3 = cvO l p q k3 (k + 1)) := Lib.hid rfl
        have HST0 : Hid (cvO l p q k3 k = cvI l p q k (cvO l p q k3 k) 0) := Lib.hid rfl
        have HBK : Hid (∀ j, j ≤ k3 → ∀ z, -100000000000 ≤ cvI l p q k (cvO l p q k3 k) j z ∧ cvI l p q k (cvO l p q k3 k) j z ≤ 100000000000) := Lib.hid (fun j hj z => HBD.out k j hlt hj z)
        unfold cvS at HX0
        obtain ⟨x, hx⟩ : ∃ x, p.getD k 0 = x := ⟨_, rfl⟩
        rw [hx] at HR1 x1 x2 HX0
        clear hx hpc hbal hbag
        have hk0 : (0 : Int) ≤ (k : Int) := by omega
        have hk23 : (k : Int) ≤ 23 := by omega
        go_wp2
        go_loopw [9] (fun i wi => ∃ j : Nat, j ≤ k3 ∧ i = .int .i64 j ∧ wi.ownsRow w.heap.size 3 1 (.slice (some ⟨g5, 0, none⟩) k3 k3) k3 (zrowV (cvI l p q k (cvO l p q k3 k) j) k3) ∧ w5.grownBy wi (some g5)) (fun i _ => k3 - (intOf i).toNat)
        case atStart => exact ⟨0, Nat.zero_le _, rfl, by rw [← HST0.out]; exact HR.out, HGR.out⟩
        case round =>
          obtain ⟨j, hj, rfl, hri, hgi⟩ := hrel
          have HRI := Lib.hid hri
          have HGI := Lib.hid hgi
          clear hri
          by_cases hjt : j < k3
          · obtain ⟨bb, ob, hbb, hbbl, hbbg, hqc⟩ := HBL.out _ _ HL.out j (by rw [← HK.out]; exact hjt)
            subst hbb
            obtain ⟨y1, y2⟩ := HBQ.out j (by rw [← HK.out]; exact hjt)
            have hx1 := HX0.out j
            obtain ⟨y, hy⟩ : ∃ y, q.getD j 0 = y := ⟨_, rfl⟩
            rw [hy] at hqc y1 y2 hx1
            have HR2 := Lib.hid hqc
            have HB2 := Lib.hid (And.intro hbbl hbbg)
            obtain ⟨e1, e2⟩ := HEL.out k j
            obtain ⟨z, hz⟩ : ∃ z : Nat, addN l (k : Int) (j : Int) = (z : Int) := ⟨(addN l (k : Int) (j : Int)).toNat, by omega⟩
            have HZZ := Lib.hid hz
            rw [hz] at e1 e2 hx1
            rw [Int.toNat_natCast] at hx1
            have hzn : z < k3 := by omega
            have hj0 : (0 : Int) ≤ (j : Int) := by omega
            have hj23 : (j : Int) ≤ 23 := by omega
            obtain ⟨f1, f2⟩ := HBK.out j hj z
            obtain ⟨F, HF⟩ : ∃ F, Hid (cvI l p q k (cvO l p q k3 k) j = F) := ⟨_, Lib.hid rfl⟩
            rw [HF.out] at hx1 f1 f2 HRI
            have HX1 := Lib.hid hx1
            obtain ⟨m1, m2⟩ := prod_bnd8 x1 x2 y1 y2
            obtain ⟨fz, HFZ⟩ : ∃ fz, Hid (F z = fz) := ⟨_, Lib.hid rfl⟩
            rw [HFZ.out] at f1 f2
            have hwm : IntKind.i64.wrap (x * y) = x * y := by rw [IntKind.wrap_i64]; omega
            have hwa : IntKind.i64.wrap (fz + x * y) = fz + x * y := by rw [IntKind.wrap_i64]; omega
            have hw7 : w.heap.size < w5.heap.size := World.block_lt_of_cell? w5 _ c5
            have c8 := cell_grown8 hgi hw7 (by have := HG5.out; omega) c5
            have TI := Lib.hid (T5.out.grown HGI.out T5.out.size (fun q hq => by cases hq; simp only [World.size_alloc]; exact HG5.out))
            clear hgi hqc hy hz hx1 hw7 hbbl hbbg
            go_wp2_with (go_at_call 67; refine (sAdd _ _ l _ _ (k : Int) (j : Int) hk0 hk23 hj0 hj23 HN.out HG.out (HI.out.below rfl TI.out)).mono ?_; rw [HZZ.out]; rintro e w9 ⟨rfl, hb9⟩; have HG9 := Lib.hid (grownG_trans HGI.out (below_grown hb9 (some g5))); have hri9 := owns_below HRI.out hb9; have hrd := hri9.drew; have hfr := hrd.frozenAt z; have hcell := (hrd.cellAt z (by omega)).trans (zrowV_at F k3 z hzn); have hst := (hrd.stored z (.int .i64 (F z + x * y))).1; rw [zrowV_set F k3 z hzn, HX1.out] at hst; have HST := Lib.hid hst; rw [HFZ.out] at hcell HST; have HGD := Lib.hid (grownG_trans HG9.out (below_grown (Below.refl _ _).drew (some g5))); have HGS := Lib.hid (grownG_set HGD.out z (.int .i64 (fz + x * y))); have d1 := cell_grown8 HGD.out HA1.out.1 HA1.out.2 HR1.out; have d2 := cell_grown8 HGD.out HB2.out.1 HB2.out.2 HR2.out; have e3 := cell_grown8 HGS.out HA1.out.1 HA1.out.2 HR1.out; have e4 := cell_grown8 HGS.out HB2.out.1 HB2.out.2 HR2.out; clear hst hrd hri9 hb9)
            go_region_with (fail)
            all_goals
              go_wp2
              go_roundw
              case rel => exact ⟨j + 1, by omega, by go_num, by first | exact HST.out | simpa using HST.out, HGS.out⟩
              case measure => simp [intOf]; omega
          · obtain rfl : j = k3 := by omega
            clear hgi
            go_wp2
            go_roundw
            case rel => exact ⟨k + 1, by omega, by go_num, by rw [← HNXT.out]; exact HRI.out, HGI.out⟩
            case measure => simp [intOf]; omega
      · obtain rfl : k = k3 := by omega
        go_wp2
        go_ret
        exact ⟨_, rfl, HR.out, HB.out.trans ((T5.out.grown HGR.out T5.out.size (fun q hq => by cases hq; simp only [World.size_alloc]; exact HG5.out)).mono (by simp))⟩
end Go.Proofs.YthlpjiibjlaebaaDoor
