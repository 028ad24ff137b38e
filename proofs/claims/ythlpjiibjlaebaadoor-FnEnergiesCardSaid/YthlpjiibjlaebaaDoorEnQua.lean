/- The document's reading of quadruples: counted one by one. -/
import Derived.Test.YthlpjiibjlaebaaDoorSumTab
import Derived.Test.YthlpjiibjlaebaaDoorEnMath
import Derived.Test.YthlpjiibjlaebaaDoorMGAD
import Derived.Deep.RegionHeld3
import Derived.Deep.DeepCutAuto
namespace Go.Proofs.YthlpjiibjlaebaaDoor
open Go.RowKit
set_option maxRecDepth 1000000
/-- One number of the innermost loop. -/
def qF (l : List Int) (s x y z : Nat) : Int := bitI s (addN l (addN l (x : Int) (y : Int)) (negN l (z : Int))).toNat
def q3 (l : List Int) (s : Nat) (x y k : Nat) : Int := accN (fun i => qF l s x y ((bitsN s).getD i 0)) k
def q2 (l : List Int) (s : Nat) (x k : Nat) : Int := accN (fun i => q3 l s x ((bitsN s).getD i 0) (bitsN s).length) k
def q1 (l : List Int) (s : Nat) (k : Nat) : Int := accN (fun i => q2 l s ((bitsN s).getD i 0) (bitsN s).length) k
theorem q1_full (l : List Int) (s : Nat) : q1 l s (bitsN s).length = quaN l s := by
  unfold q1
  rw [accN_list (fun x => q2 l s x (bitsN s).length)]
  unfold quaN
  refine sumL_congr (fun x _ => ?_)
  unfold q2
  rw [accN_list (fun y => q3 l s x y (bitsN s).length)]
  refine sumL_congr (fun y _ => ?_)
  unfold q3
  rw [accN_list (fun z => qF l s x y z)]
  rfl
theorem q3_bnd (l : List Int) (s x y : Nat) {k : Nat} (hk : k ≤ (bitsN s).length) : 0 ≤ q3 l s x y k ∧ q3 l s x y k ≤ 24 := by
  have := accN_bnd (f := fun i => qF l s x y ((bitsN s).getD i 0)) (n := k) (a := 0) (b := 1) (fun i _ => bitI_bnd _ _)
  have := bits_le s
  unfold q3
  omega
theorem q2_bnd (l : List Int) (s x : Nat) {k : Nat} (hk : k ≤ (bitsN s).length) : 0 ≤ q2 l s x k ∧ q2 l s x k ≤ 576 := by
  have := accN_bnd (f := fun i => q3 l s x ((bitsN s).getD i 0) (bitsN s).length) (n := k) (a := 0) (b := 24) (fun i _ => q3_bnd l s x _ (Nat.le_refl _))
  have := bits_le s
  unfold q2
  omega
theorem q1_bnd (l : List Int) (s : Nat) {k : Nat} (hk : k ≤ (bitsN s).length) : 0 ≤ q1 l s k ∧ q1 l s k ≤ 13824 := by
  have := accN_bnd (f := fun i => q2 l s ((bitsN s).getD i 0) (bitsN s).length) (n := k) (a := 0) (b := 576) (fun i _ => q2_bnd l s _ (Nat.le_refl _))
  have := bits_le s
  unfold q1
  omega
set_option maxHeartbeats 4000000 in
theorem sQua (w : World) (a : Option Addr) (l : List Int) (n cap : Nat) (s : Int) (hn : n = l.length) (hm : n ≤ 9223372036854775807) (hi : Ints w a l) :
    Calls Tryd.prog 31 #[.agg #[.slice a n cap], .int .i64 s] w fun e w' => e = .returned (.int .i64 (quaE l s)) ∧ Below w.heap.size w w' := by
  have HI := Lib.hid (ints_alloc hi (.cells #[.slice a n cap] 26))
  have HN := Lib.hid hn
  have C1 := newC w (.slice a n cap) 26 (n := w.heap.size) rfl
  have HB := Lib.hid (Joins.below_alloc1 w (.cells #[.slice a n cap] 26))
  have T0 := Lib.hid (Below.refl (w.alloc (.cells #[.slice a n cap] 26)).heap.size (w.alloc (.cells #[.slice a n cap] 26)))
  clear hi hn
  cases hs : isS l s with
  | false =>
    have HS := Lib.hid hs
    rw [show quaE l s = -1 by unfold quaE; rw [hs]; rfl]
    clear hs
    go_enter Tryd.func31, Tryd.ntmps31
    go_wp2_with (first
      | (go_at_call 64; refine (sIsSet _ _ _ _ _ _ HN.out hm (HI.out.below rfl T0.out)).mono ?_; rw [HS.out]; rintro e w1 ⟨rfl, hb1⟩; have T1 := Lib.hid (T0.out.trans (hb1.mono T0.out.size)); have c1 := keepC T1.out (by simp) C1))
    go_ret
    exact ⟨rfl, HB.out.trans (T1.out.mono (by simp))⟩
  | true =>
    have HS := Lib.hid hs
    obtain ⟨hg, s, rfl, hsn, hs24⟩ := isS_true hs
    have HRES : Hid (quaE l (s : Int) = q1 l s (bitsN s).length) := Lib.hid (by rw [q1_full]; unfold quaE; rw [hs]; rfl)
    rw [HRES.out]
    have HG := Lib.hid hg
    have HA := Lib.hid hs24
    have HLN := Lib.hid (LI_len s)
    have hlen : ((LI s).length : Int) = ((bitsN s).length : Int) := by rw [HLN.out]
    have h24 := bits_le s
    have hS : s < 16777216 := hs24
    have HAB := Lib.hid (fun x y => addN_bnd hg x y)
    have HNB := Lib.hid (fun x => mulN_bnd' hg x (-1))
    have HQ1 := Lib.hid (fun k (hk : k ≤ (bitsN s).length) => q1_bnd l s hk)
    have HQ2 := Lib.hid (fun x k (hk : k ≤ (bitsN s).length) => q2_bnd l s x hk)
    have HQ3 := Lib.hid (fun x y k (hk : k ≤ (bitsN s).length) => q3_bnd l s x y hk)
    have H1S : Hid (∀ k, q1 l s (k + 1) = q1 l s k + q2 l s ((bitsN s).getD k 0) (bitsN s).length) := Lib.hid (fun k => rfl)
    have H2S : Hid (∀ x k, q2 l s x (k + 1) = q2 l s x k + q3 l s x ((bitsN s).getD k 0) (bitsN s).length) := Lib.hid (fun x k => rfl)
    have H3S : Hid (∀ x y k, q3 l s x y (k + 1) = q3 l s x y k + bitI s (addN l (addN l (x : Int) (y : Int)) (negN l (((bitsN s).getD k 0 : Nat) : Int))).toNat) := Lib.hid (fun x y k => rfl)
    have H1Z : Hid (q1 l s 0 = 0) := Lib.hid rfl
    have H2Z : Hid (∀ x, q2 l s x 0 = 0) := Lib.hid (fun x => rfl)
    have H3Z : Hid (∀ x y, q3 l s x y 0 = 0) := Lib.hid (fun x y => rfl)
    have HAT := Lib.hid (bits_at s)
    obtain ⟨A1, HA1⟩ : ∃ A, Hid (q1 l s = A) := ⟨_, Lib.hid rfl⟩
    obtain ⟨A2, HA2⟩ : ∃ A, Hid (q2 l s = A) := ⟨_, Lib.hid rfl⟩
    obtain ⟨A3, HA3⟩ : ∃ A, Hid (q3 l s = A) := ⟨_, Lib.hid rfl⟩
    rw [HA1.out] at HQ1 H1S H1Z
    rw [HA2.out] at HQ2 H1S H2S H2Z
    rw [HA3.out] at HQ3 H2S H3S H3Z
    rw [HA1.out]
    obtain ⟨N, HNN⟩ : ∃ N, Hid ((bitsN s).length = N) := ⟨_, Lib.hid rfl⟩
    rw [HNN.out] at hlen h24 HQ1 HQ2 HQ3 H1S H2S HAT HLN
    rw [HNN.out]
    clear hs hg hsn hs24
    go_enter Tryd.func31, Tryd.ntmps31
    go_wp2_with (first
      | (go_at_call 66; refine (sL3I _ s HA.out).mono ?_; rintro e w2 ⟨v2, rfl, ho2, hb2⟩; obtain ⟨a2, cap2, rfl, hI2⟩ := own_read ho2; have I2 := Lib.hid hI2; have T2 := Lib.hid (T1.out.trans (hb2.mono T1.out.size)); have c2 := keepC T2.out (by simp) C1; clear ho2 hI2)
      | (go_at_call 64; refine (sIsSet _ _ _ _ _ _ HN.out hm (HI.out.below rfl T0.out)).mono ?_; rw [HS.out]; rintro e w1 ⟨rfl, hb1⟩; have T1 := Lib.hid (T0.out.trans (hb1.mono T0.out.size)); have c1 := keepC T1.out (by simp) C1))
    go_loopw [6, 7] (fun o i wr => ∃ k : Nat, k ≤ N ∧ i = .int .i64 k ∧ o = .int .i64 (A1 k) ∧ Below w2.heap.size w2 wr) (fun _ i _ => N - (intOf i).toNat)
    case atStart => exact ⟨0, Nat.zero_le _, rfl, by rw [H1Z.out], Below.refl _ _⟩
    case round =>
      obtain ⟨k, hk, rfl, rfl, hb3⟩ := hrel
      have HB3 := Lib.hid hb3
      have hq1 := HQ1.out k hk
      clear hb3
      by_cases hlt : k < N
      · have hx23 := HAT.out k hlt
        have HN1 := Lib.hid (H1S.out k)
        obtain ⟨x, HX⟩ : ∃ x, Hid ((bitsN s).getD k 0 = x) := ⟨_, Lib.hid rfl⟩
        rw [HX.out] at HN1 hx23
        obtain ⟨u, HU⟩ : ∃ u, Hid (A1 k = u) := ⟨_, Lib.hid rfl⟩
        rw [HU.out] at HN1 hq1
        rw [HU.out]
        go_wp2
        go_loopw [6, 8] (fun o i wj => ∃ j : Nat, j ≤ N ∧ i = .int .i64 j ∧ o = .int .i64 (u + A2 x j) ∧ Below w2.heap.size w2 wj) (fun _ i _ => N - (intOf i).toNat)
        case atStart => exact ⟨0, Nat.zero_le _, rfl, by rw [H2Z.out x, Int.add_zero], HB3.out⟩
        case round =>
          obtain ⟨j, hj, rfl, rfl, hb4⟩ := hrel
          have HB4 := Lib.hid hb4
          have hq2 := HQ2.out x j hj
          clear hb4
          by_cases hltj : j < N
          · have hy23 := HAT.out j hltj
            have HN2 := Lib.hid (H2S.out x j)
            obtain ⟨y, HY⟩ : ∃ y, Hid ((bitsN s).getD j 0 = y) := ⟨_, Lib.hid rfl⟩
            rw [HY.out] at HN2 hy23
            obtain ⟨v, HV⟩ : ∃ v, Hid (A2 x j = v) := ⟨_, Lib.hid rfl⟩
            rw [HV.out] at HN2 hq2
            rw [HV.out]
            go_wp2
            go_loopw [6, 9] (fun o i wm => ∃ m : Nat, m ≤ N ∧ i = .int .i64 m ∧ o = .int .i64 (u + v + A3 x y m) ∧ Below w2.heap.size w2 wm) (fun _ i _ => N - (intOf i).toNat)
            case atStart => exact ⟨0, Nat.zero_le _, rfl, by rw [H3Z.out x y, Int.add_zero], HB4.out⟩
            case round =>
              obtain ⟨m, hm3, rfl, rfl, hb5⟩ := hrel
              have HB5 := Lib.hid hb5
              have hq3 := HQ3.out x y m hm3
              have T5 := Lib.hid (T2.out.trans (hb5.mono T2.out.size))
              have c5 := keepC T5.out (by simp) C1
              clear hb5
              by_cases hltm : m < N
              · have HN3 := Lib.hid (H3S.out x y m)
                have hz23 := HAT.out m hltm
                obtain ⟨z, HZV⟩ : ∃ z, Hid ((bitsN s).getD m 0 = z) := ⟨_, Lib.hid rfl⟩
                rw [HZV.out] at HN3 hz23
                obtain ⟨c, HC⟩ : ∃ c, Hid (A3 x y m = c) := ⟨_, Lib.hid rfl⟩
                rw [HC.out] at HN3 hq3
                rw [HC.out]
                obtain ⟨s1, s2⟩ := HAB.out (x : Int) (y : Int)
                obtain ⟨g1, g2⟩ := HNB.out (z : Int)
                obtain ⟨d1, d2⟩ := HAB.out (addN l (x : Int) (y : Int)) (negN l (z : Int))
                obtain ⟨vn, hvn⟩ : ∃ vn : Nat, addN l (addN l (x : Int) (y : Int)) (negN l (z : Int)) = (vn : Int) := ⟨_, (Int.toNat_of_nonneg d1).symm⟩
                rw [hvn] at d1 d2 HN3
                rw [Int.toNat_natCast] at HN3
                have HVN := Lib.hid hvn
                obtain ⟨P, HP⟩ : ∃ P, Hid (addN l (x : Int) (y : Int) = P) := ⟨_, Lib.hid rfl⟩
                obtain ⟨R, HR⟩ : ∃ R, Hid (negN l (z : Int) = R) := ⟨_, Lib.hid rfl⟩
                rw [HP.out] at s1 s2 HVN
                rw [HR.out] at HVN
                have g1' : 0 ≤ R := by rw [← HR.out]; exact g1
                have g2' : R ≤ 23 := by rw [← HR.out]; exact g2
                have hx0 : (0 : Int) ≤ (x : Int) := by omega
                have hx23' : (x : Int) ≤ 23 := by omega
                have hy0 : (0 : Int) ≤ (y : Int) := by omega
                have hy23' : (y : Int) ≤ 23 := by omega
                have hz0 : (0 : Int) ≤ (z : Int) := by omega
                have hz23' : (z : Int) ≤ 23 := by omega
                have hsj : (s : Int) / 2 ^ vn = ((s / 2 ^ vn : Nat) : Int) := by simp
                have hle := Nat.div_le_self s (2 ^ vn)
                have ha : bits .and .i64 ((s : Int) / 2 ^ vn) 1 = ((s / 2 ^ vn % 2 : Nat) : Int) := by rw [hsj]; exact and1 (s / 2 ^ vn) (by omega)
                have hb := bit_iff s vn
                have hvn23 : vn ≤ 23 := by omega
                clear hsj hle hvn g1 g2 d1 d2
                rcases I2.out with h0 | ⟨b, off, h1, hbg, hbl, hc⟩
                · exfalso
                  have hkl : k < (LI s).length := by rw [HLN.out]; exact hlt
                  rw [h0] at hkl; simp at hkl
                · subst h1
                  have HKX : Hid (∀ W, Below w2.heap.size w2 W → W.cell? ⟨b, off + k, none⟩ = some (.int .i64 (x : Int))) := Lib.hid (fun W hW => by
                    have r := keepC hW hbl (hc k (by rw [HLN.out]; exact hlt))
                    rw [LI_at s k (by rw [HNN.out]; exact hlt), HX.out] at r
                    exact r)
                  have HKY : Hid (∀ W, Below w2.heap.size w2 W → W.cell? ⟨b, off + j, none⟩ = some (.int .i64 (y : Int))) := Lib.hid (fun W hW => by
                    have r := keepC hW hbl (hc j (by rw [HLN.out]; exact hltj))
                    rw [LI_at s j (by rw [HNN.out]; exact hltj), HY.out] at r
                    exact r)
                  have HKZ : Hid (∀ W, Below w2.heap.size w2 W → W.cell? ⟨b, off + m, none⟩ = some (.int .i64 (z : Int))) := Lib.hid (fun W hW => by
                    have r := keepC hW hbl (hc m (by rw [HLN.out]; exact hltm))
                    rw [LI_at s m (by rw [HNN.out]; exact hltm), HZV.out] at r
                    exact r)
                  have TD := Lib.hid T5.out.drew
                  have HBD := Lib.hid HB5.out.drew
                  have p5 := HKX.out _ HB5.out
                  have q5 := HKY.out _ HB5.out
                  have r5 := HKZ.out _ HB5.out
                  clear hc hbl hbg
                  cases hbt : s.testBit vn with
                  | true =>
                    have hz := hb.1 hbt
                    rw [hz] at ha
                    simp only [Int.natCast_one] at ha
                    have E1 : Hid (A3 x y (m + 1) = c + 1) := Lib.hid (by rw [HN3.out]; unfold bitI; rw [if_pos hbt])
                    clear hb hbt hz HN3
                    go_wp2
                    go_region_held3 (fun W => W.cell? ⟨w.heap.size, 0, none⟩ = some (.slice a n cap) ∧ W.cell? ⟨b, off + k, none⟩ = some (.int .i64 (x : Int)) ∧ W.cell? ⟨b, off + j, none⟩ = some (.int .i64 (y : Int)) ∧ W.cell? ⟨b, off + m, none⟩ = some (.int .i64 (z : Int))) (first | exact ⟨c8, p8, q8, r8⟩ | exact ⟨c7, p7, q7, r7⟩ | exact ⟨c6, p6, q6, r6⟩ | exact ⟨c5, p5, q5, r5⟩)
                      (first
                      | (go_at_call 67; have hx_ := T7; clear hx_; refine (sAdd _ _ l _ _ P R s1 s2 g1' g2' HN.out HG.out (HI.out.below rfl T7.out)).mono ?_; rw [HVN.out]; rintro e w8 ⟨rfl, hb8⟩; have T8 := Lib.hid (T7.out.trans (hb8.mono T7.out.size)); have HB8 := Lib.hid (HB7.out.trans (hb8.mono HB7.out.size)); have c8 := keepC T8.out (by simp) C1; have p8 := HKX.out w8 HB8.out; have q8 := HKY.out w8 HB8.out; have r8 := HKZ.out w8 HB8.out)
                      | (go_at_call 82; refine (sNeg _ _ l _ _ (z : Int) hz0 hz23' HN.out HG.out (HI.out.below rfl T6.out)).mono ?_; rw [HR.out]; rintro e w7 ⟨rfl, hb7⟩; have T7 := Lib.hid (T6.out.trans (hb7.mono T6.out.size)); have HB7 := Lib.hid (HB6.out.trans (hb7.mono HB6.out.size)); have c7 := keepC T7.out (by simp) C1; have p7 := HKX.out w7 HB7.out; have q7 := HKY.out w7 HB7.out; have r7 := HKZ.out w7 HB7.out)
                      | (go_at_call 67; refine (sAdd _ _ l _ _ (x : Int) (y : Int) hx0 hx23' hy0 hy23' HN.out HG.out (HI.out.below rfl TD.out)).mono ?_; rw [HP.out]; rintro e w6 ⟨rfl, hb6⟩; have T6 := Lib.hid (TD.out.trans (hb6.mono TD.out.size)); have HB6 := Lib.hid (HBD.out.trans (hb6.mono HBD.out.size)); have c6 := keepC T6.out (by simp) C1; have p6 := HKX.out w6 HB6.out; have q6 := HKY.out w6 HB6.out; have r6 := HKZ.out w6 HB6.out))
                    go_wp2
                    go_roundw
                    case rel => exact ⟨m + 1, by omega, by go_num, by rw [E1.out, Int.add_assoc], HB8.out⟩
                    case measure => simp [intOf]; omega
                  | false =>
                    have hz : s / 2 ^ vn % 2 = 0 := by
                      rcases Nat.mod_two_eq_zero_or_one (s / 2 ^ vn) with h2 | h2
                      · exact h2
                      · rw [hb.2 h2] at hbt; cases hbt
                    rw [hz] at ha
                    simp only [Int.ofNat_zero] at ha
                    have E1 : Hid (A3 x y (m + 1) = c) := Lib.hid (by rw [HN3.out]; unfold bitI; rw [if_neg (by simp [hbt])]; omega)
                    clear hb hbt hz HN3
                    go_wp2
                    go_region_held3 (fun W => W.cell? ⟨w.heap.size, 0, none⟩ = some (.slice a n cap) ∧ W.cell? ⟨b, off + k, none⟩ = some (.int .i64 (x : Int)) ∧ W.cell? ⟨b, off + j, none⟩ = some (.int .i64 (y : Int)) ∧ W.cell? ⟨b, off + m, none⟩ = some (.int .i64 (z : Int))) (first | exact ⟨c8, p8, q8, r8⟩ | exact ⟨c7, p7, q7, r7⟩ | exact ⟨c6, p6, q6, r6⟩ | exact ⟨c5, p5, q5, r5⟩)
                      (first
                      | (go_at_call 67; have hx_ := T7; clear hx_; refine (sAdd _ _ l _ _ P R s1 s2 g1' g2' HN.out HG.out (HI.out.below rfl T7.out)).mono ?_; rw [HVN.out]; rintro e w8 ⟨rfl, hb8⟩; have T8 := Lib.hid (T7.out.trans (hb8.mono T7.out.size)); have HB8 := Lib.hid (HB7.out.trans (hb8.mono HB7.out.size)); have c8 := keepC T8.out (by simp) C1; have p8 := HKX.out w8 HB8.out; have q8 := HKY.out w8 HB8.out; have r8 := HKZ.out w8 HB8.out)
                      | (go_at_call 82; refine (sNeg _ _ l _ _ (z : Int) hz0 hz23' HN.out HG.out (HI.out.below rfl T6.out)).mono ?_; rw [HR.out]; rintro e w7 ⟨rfl, hb7⟩; have T7 := Lib.hid (T6.out.trans (hb7.mono T6.out.size)); have HB7 := Lib.hid (HB6.out.trans (hb7.mono HB6.out.size)); have c7 := keepC T7.out (by simp) C1; have p7 := HKX.out w7 HB7.out; have q7 := HKY.out w7 HB7.out; have r7 := HKZ.out w7 HB7.out)
                      | (go_at_call 67; refine (sAdd _ _ l _ _ (x : Int) (y : Int) hx0 hx23' hy0 hy23' HN.out HG.out (HI.out.below rfl TD.out)).mono ?_; rw [HP.out]; rintro e w6 ⟨rfl, hb6⟩; have T6 := Lib.hid (TD.out.trans (hb6.mono TD.out.size)); have HB6 := Lib.hid (HBD.out.trans (hb6.mono HBD.out.size)); have c6 := keepC T6.out (by simp) C1; have p6 := HKX.out w6 HB6.out; have q6 := HKY.out w6 HB6.out; have r6 := HKZ.out w6 HB6.out))
                    go_wp2
                    go_roundw
                    case rel => exact ⟨m + 1, by omega, by go_num, by rw [E1.out], HB8.out⟩
                    case measure => simp [intOf]; omega
              · obtain rfl : m = N := by omega
                go_wp2
                go_roundw
                case rel => exact ⟨j + 1, by omega, by go_num, by rw [HN2.out, Int.add_assoc], HB5.out⟩
                case measure => simp [intOf]; omega
          · obtain rfl : j = N := by omega
            go_wp2
            go_roundw
            case rel => exact ⟨k + 1, by omega, by go_num, by rw [HN1.out], HB4.out⟩
            case measure => simp [intOf]; omega
      · obtain rfl : k = N := by omega
        go_wp2
        go_ret
        exact ⟨rfl, HB.out.trans ((T2.out.trans (HB3.out.mono T2.out.size)).mono (by simp))⟩
end Go.Proofs.YthlpjiibjlaebaaDoor
