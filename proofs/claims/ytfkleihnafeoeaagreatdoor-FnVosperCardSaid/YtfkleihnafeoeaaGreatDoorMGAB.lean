/- Merged: VoSpec5 QVs VoI EachL Lst VoJ LdI VoP Err Round Shift SumI Dil ShiftSet SetDil SumJ KnF SumK TabE VoK. -/
import Derived.Test.YtfkleihnafeoeaaGreatDoorMGAA
import Derived.Test.YtfkleihnafeoeaaGreatDoorVoRun
import Derived.Test.YtfkleihnafeoeaaGreatDoorSetIn
import Derived.Deep.LoopGhost
import Derived.WalkMore
import Derived.Test.YtfkleihnafeoeaaGreatDoorLstN
import Derived.Test.YtfkleihnafeoeaaGreatDoorKnDef
import Derived.Test.YtfkleihnafeoeaaGreatDoorGrpTri
import Derived.Test.YtfkleihnafeoeaaGreatDoorVoEl
import Derived.Test.YtfkleihnafeoeaaGreatDoorGrpIn
import Derived.WalkKit
import Derived.LaidEql
import Derived.Stop.Asserts
import Derived.RowKitTokens
import Derived.Lib.ReflectliteSwap
import Derived.Deep.RegionHeld3
import Derived.Test.YtfkleihnafeoeaaGreatDoorGrpMul
import Derived.Test.YtfkleihnafeoeaaGreatDoorShiftN
import Derived.Test.YtfkleihnafeoeaaGreatDoorSumSpec
import Derived.Test.YtfkleihnafeoeaaGreatDoorDilSpec
import Derived.Deep.DeepCutAuto
namespace Go.Proofs.YtfkleihnafeoeaaGreatDoor
open Go.RowKit
set_option maxRecDepth 1000000
theorem run_yes {l : List Int} {a d f x s : Nat} (h : a.testBit x = true) (h2 : s.testBit x = false) : runN l a d (f + 1) x s = runN l a d f (adN l x d) (s ||| 2 ^ x) + 1 := by
  show (if (a.testBit x && !s.testBit x) = true then runN l a d f (adN l x d) (s ||| 2 ^ x) + 1 else 0) = _
  rw [h, h2, if_pos (show (true && !false) = true from rfl)]
theorem run_no {l : List Int} {a d x s : Nat} (h : (a.testBit x && !s.testBit x) = false) : ∀ f, runN l a d f x s = 0
  | 0 => rfl
  | f + 1 => by
    show (if (a.testBit x && !s.testBit x) = true then runN l a d f (adN l x d) (s ||| 2 ^ x) + 1 else 0) = _
    rw [h, if_neg (by simp)]
theorem full_bit {s x : Nat} (hs : s < 2 ^ 24) (hl : (bitsN s).length = 24) (hx : x < 24) : s.testBit x = true := by
  cases h : s.testBit x with
  | true => rfl
  | false =>
    have := or_len hs hx h
    have := bits_le (s ||| 2 ^ x)
    omega
theorem shr_bit (s x : Nat) (hs : s < 16777216) : bits .and .i64 ((s : Int) / 2 ^ x) 1 = ((s / 2 ^ x % 2 : Nat) : Int) := by
  have hsj : (s : Int) / 2 ^ x = ((s / 2 ^ x : Nat) : Int) := by simp
  have hle := Nat.div_le_self s (2 ^ x)
  rw [hsj]
  exact and1 (s / 2 ^ x) (by omega)
theorem shr_yes {s x : Nat} (hs : s < 16777216) (h : s.testBit x = true) : bits .and .i64 ((s : Int) / 2 ^ x) 1 = 1 := by
  rw [shr_bit s x hs, (bit_iff s x).1 h]
  rfl
theorem shr_no {s x : Nat} (hs : s < 16777216) (h : s.testBit x = false) : bits .and .i64 ((s : Int) / 2 ^ x) 1 = 0 := by
  rw [shr_bit s x hs]
  rcases Nat.mod_two_eq_zero_or_one (s / 2 ^ x) with g | g
  · rw [g]; rfl
  · rw [(bit_iff s x).2 g] at h; cases h
set_option maxHeartbeats 8000000 in
theorem sLng (w : World) (a : Option Addr) (l : List Int) (n cap : Nat) (s : Int) (hn : n = l.length) (hm : n ≤ 9223372036854775807) (hi : Ints w a l) :
    Calls Tryz.prog 24 #[.agg #[.slice a n cap], .int .i64 s] w fun e w' => e = .returned (.int .i64 (lngE l s)) ∧ Below w.heap.size w w' := by
  have HI := Lib.hid (ints_alloc hi (.cells #[.slice a n cap] 26))
  have HN := Lib.hid hn
  have C1 := newC w (.slice a n cap) 26 (n := w.heap.size) rfl
  have HB := Lib.hid (Joins.below_alloc1 w (.cells #[.slice a n cap] 26))
  have T0 := Lib.hid (Below.refl (w.alloc (.cells #[.slice a n cap] 26)).heap.size (w.alloc (.cells #[.slice a n cap] 26)))
  clear hi hn
  cases hs : isS l s with
  | false =>
    have HS := Lib.hid hs
    rw [show lngE l s = -1 by unfold lngE; rw [if_neg (by simp [hs])]]
    clear hs
    go_enter Tryz.func24, Tryz.ntmps24
    go_wp2_with (go_at_call 34; refine (sIsSet _ _ _ _ _ _ HN.out hm (HI.out.below rfl T0.out)).mono ?_; rw [HS.out]; rintro e w1 ⟨rfl, hb1⟩; have T1 := Lib.hid (T0.out.trans (hb1.mono T0.out.size)); have c1 := keepC T1.out (by simp) C1)
    go_ret
    exact ⟨rfl, HB.out.trans (T1.out.mono (by simp))⟩
  | true =>
    have HS := Lib.hid hs
    obtain ⟨hg, s, rfl, hsn, hs24⟩ := isS_true hs
    have hP := (ords_grp hg).prod
    obtain ⟨P, hPe⟩ : ∃ P : Nat, prodI l = (P : Int) := ⟨(prodI l).toNat, by omega⟩
    have hPt : (prodI l).toNat = P := by omega
    have hP24 : P ≤ 24 := by omega
    rw [show lngE l (s : Int) = ((lngN l s : Nat) : Int) by unfold lngE; rw [if_pos hs, Int.toNat_natCast]]
    unfold lngN
    rw [hPt]
    have HP := Lib.hid hPe
    have HG := Lib.hid hg
    have HA := Lib.hid hs24
    have hs16 : s < 16777216 := hs24
    have HS16 := Lib.hid hs16
    have HEL := Lib.hid (fun x (hx : x ∈ bitsN s) => grp_elt hg hsn hx)
    rw [hPe] at HEL
    have HRL : Hid (∀ x d, runN l s d 24 x 0 ≤ 24) := Lib.hid (fun x d => by
      have := run_le (l := l) (d := d) hs24 24 x 0 (by decide) (fun i hi => by simp at hi)
      have := bits_le s
      omega)
    have HAL : Hid (∀ x d, adN l x d < P) := Lib.hid (fun x d => by have := (abel_grp hg).lt x d; omega)
    have HAD : Hid (∀ y d : Nat, addN l (y : Int) (d : Int) = ((adN l y d : Nat) : Int)) := Lib.hid (fun y d => by have := addN_in (ords_grp hg) (y : Int) (d : Int); unfold adN; omega)
    obtain ⟨c, HC⟩ : ∃ c, Hid ((bitsN s).length = c) := ⟨_, Lib.hid rfl⟩
    have hc24 : c ≤ 24 := by rw [← HC.out]; exact bits_le s
    rw [HC.out]
    have HFS := Lib.hid (fun k => show mxN (fun i => mxN (fun d => runN l s d 24 ((bitsN s).getD i 0) 0) P) (k + 1) = max (mxN (fun i => mxN (fun d => runN l s d 24 ((bitsN s).getD i 0) 0) P) k) (mxN (fun d => runN l s d 24 ((bitsN s).getD k 0) 0) P) from rfl)
    have HFB : Hid (∀ k, mxN (fun i => mxN (fun d => runN l s d 24 ((bitsN s).getD i 0) 0) P) k ≤ 24) := Lib.hid (fun k => mx_le k (fun i _ => mx_le P (fun d _ => HRL.out _ d)))
    have HF0 : Hid (mxN (fun i => mxN (fun d => runN l s d 24 ((bitsN s).getD i 0) 0) P) 0 = 0) := Lib.hid rfl
    obtain ⟨FF, hFF⟩ : ∃ f, mxN (fun i => mxN (fun d => runN l s d 24 ((bitsN s).getD i 0) 0) P) = f := ⟨_, rfl⟩
    rw [hFF] at HFS HFB HF0 ⊢
    clear hs hg hs24 hs16 hsn hP hPe hPt hFF
    go_enter Tryz.func24, Tryz.ntmps24
    go_wp2_with (first
      | (go_at_call 41; refine (sL3I _ s HA.out).mono ?_; rintro e w3 ⟨v3, rfl, ho3, hb3⟩; obtain ⟨a3, cap3, rfl⟩ := own_slice ho3; have I3 := Lib.hid (own_ints ho3); have T3 := Lib.hid (T1.out.trans (hb3.mono T1.out.size)); have c3 := keepC T3.out (by simp) C1; clear ho3)
      | (go_at_call 34; refine (sIsSet _ _ _ _ _ _ HN.out hm (HI.out.below rfl T0.out)).mono ?_; rw [HS.out]; rintro e w1 ⟨rfl, hb1⟩; have T1 := Lib.hid (T0.out.trans (hb1.mono T0.out.size)); have c1 := keepC T1.out (by simp) C1))
    go_loopw [5, 7] (fun b i wr => ∃ k : Nat, k ≤ c ∧ i = .int .i64 k ∧ b = .int .i64 (FF k : Nat) ∧ Below w3.heap.size w3 wr) (fun _ i _ => c - (intOf i).toNat)
    case atStart => exact ⟨0, Nat.zero_le _, rfl, by rw [HF0.out]; rfl, Below.refl _ _⟩
    case round =>
      obtain ⟨k, hk, rfl, rfl, hbel⟩ := hrel
      obtain ⟨wa, rfl⟩ : ∃ W, W = wr := ⟨wr, rfl⟩
      have ca := keepC hbel (World.block_lt_of_cell? w3 _ c3) c3
      have HBL := Lib.hid hbel
      have HIa := Lib.hid ((HI.out.below rfl T3.out).below rfl hbel)
      have HLN := Lib.hid (LI_len s)
      have hlen : ((LI s).length : Int) = (c : Int) := by rw [HLN.out, HC.out]
      have hfb := HFB.out k
      by_cases hlt : k < c
      · have hki : (k : Int) < (c : Int) := by omega
        have hjl : k < (bitsN s).length := by rw [HC.out]; exact hlt
        have hkl : k < (LI s).length := by rw [HLN.out]; exact hjl
        have hmem : (bitsN s).getD k 0 ∈ bitsN s := by
          rw [List.getD, List.getElem?_eq_getElem hjl]
          exact List.getElem_mem hjl
        have hyP := HEL.out _ hmem
        rcases I3.out with h0 | ⟨bL, oL, h1, hbL, hcL⟩
        · rw [h0] at hkl; simp at hkl
        subst h1
        have d3 := hcL k hkl
        rw [LI_at s k hjl] at d3
        have da := keepC hbel hbL d3
        have HFK := Lib.hid (HFS.out k)
        obtain ⟨y, hy⟩ : ∃ y, (bitsN s).getD k 0 = y := ⟨_, rfl⟩
        rw [hy] at da hyP HFK
        have HYP := Lib.hid hyP
        have HGS := Lib.hid (fun d => show mxN (fun d => runN l s d 24 y 0) (d + 1) = max (mxN (fun d => runN l s d 24 y 0) d) (runN l s d 24 y 0) from rfl)
        have HGB : Hid (∀ d, mxN (fun d => runN l s d 24 y 0) d ≤ 24) := Lib.hid (fun d => mx_le d (fun e _ => HRL.out y e))
        have HG0 : Hid (mxN (fun d => runN l s d 24 y 0) 0 = 0) := Lib.hid rfl
        obtain ⟨GG, hGG⟩ : ∃ f, mxN (fun d => runN l s d 24 y 0) = f := ⟨_, rfl⟩
        rw [hGG] at HGS HGB HG0 HFK
        obtain ⟨B0, hB0⟩ : ∃ b, FF k = b := ⟨_, rfl⟩
        rw [hB0] at HFK hfb
        rw [hB0]
        have DA := Lib.hid da
        clear hjl hkl hmem hyP hcL hbL d3 da hy hGG hB0 hbel
        go_wp2
        go_loopw [5, 8] (fun b dd wr => ∃ d : Nat, d ≤ P ∧ dd = .int .i64 d ∧ b = .int .i64 (max B0 (GG d) : Nat) ∧ Below wa.heap.size wa wr) (fun _ dd _ => P - (intOf dd).toNat)
        case atStart => exact ⟨0, Nat.zero_le _, rfl, by rw [HG0.out, Nat.max_eq_left (Nat.zero_le _)], Below.refl _ _⟩
        case round =>
          obtain ⟨d, hd, rfl, rfl, hb4⟩ := hrel
          obtain ⟨wb, rfl⟩ : ∃ W, W = wr := ⟨wr, rfl⟩
          have cb := keepC hb4 (World.block_lt_of_cell? wa _ ca) ca
          have db := keepC hb4 (World.block_lt_of_cell? wa _ DA.out) DA.out
          have HB4 := Lib.hid hb4
          have HIb := Lib.hid (HIa.out.below rfl hb4)
          have hgb := HGB.out d
          by_cases hdl : d < P
          · have hdi : (d : Int) < (P : Int) := by omega
            have hd0 : (0 : Int) ≤ (d : Int) := by omega
            have hd23 : (d : Int) ≤ 23 := by omega
            have HGK := Lib.hid (HGS.out d)
            have hR := HRL.out y d
            obtain ⟨R, hRR⟩ : ∃ r, runN l s d 24 y 0 = r := ⟨_, rfl⟩
            rw [hRR] at HGK hR
            have HRR := Lib.hid hRR
            obtain ⟨BE, hBE⟩ : ∃ b, max B0 (GG d) = b := ⟨_, rfl⟩
            have HBE := Lib.hid hBE
            have hbe : BE ≤ 24 := by omega
            rw [hBE]
            clear hRR hBE hb4
            go_wp2_with (go_at_call 35; refine (sOrder _ _ l _ _ HN.out HG.out HIb.out).mono ?_; rw [HP.out]; rintro e w6 ⟨rfl, hb6⟩; have c6 := keepC hb6 (World.block_lt_of_cell? wb _ cb) cb; have d6 := keepC hb6 (World.block_lt_of_cell? wb _ db) db; have HI6 := Lib.hid (HIb.out.below rfl hb6))
            go_loopw [9, 10, 11] (fun nn sn xx wr => ∃ q f sq x : Nat, nn = .int .i64 q ∧ sn = .int .i64 sq ∧ xx = .int .i64 x ∧ q + f = 24 ∧ sq < 2 ^ 24 ∧ (bitsN sq).length = q ∧ x < P ∧ q + runN l s d f x sq = R ∧ Below w6.heap.size w6 wr) (fun nn _ _ _ => 24 - (intOf nn).toNat)
            case atStart => exact ⟨0, 24, 0, y, rfl, rfl, rfl, rfl, by decide, by decide, by have := HYP.out; omega, by rw [HRR.out]; omega, Below.refl _ _⟩
            case round =>
              obtain ⟨q, f, sq, x, rfl, rfl, rfl, hqf, hsq, hlq, hxP, hrun, hb7⟩ := hrel
              have HB7 := Lib.hid hb7
              have c7 := keepC hb7 (World.block_lt_of_cell? w6 _ c6) c6
              have HI7 := Lib.hid (HI6.out.below rfl hb7)
              have HSQ := Lib.hid hsq
              have HLQ := Lib.hid hlq
              have HRN := Lib.hid hrun
              have hx0 : (0 : Int) ≤ (x : Int) := by omega
              have hx23 : (x : Int) ≤ 23 := by omega
              cases hb : s.testBit x with
              | false =>
                have hand := shr_no HS16.out hb
                have HE := Lib.hid (run_no (l := l) (a := s) (d := d) (x := x) (s := sq) (by rw [hb]; rfl) f)
                have HQR : Hid (q = R) := Lib.hid (by have h := HRN.out; rw [HE.out] at h; omega)
                clear hb hb7 hrun hsq hlq
                go_wp2
                all_goals
                  go_roundw
                  case rel => exact ⟨d + 1, by omega, by go_num, by have h1 := HGK.out; have h2 := HQR.out; have h3 := HBE.out; congr 1; omega, HB4.out.trans ((hb6.trans (HB7.out.mono hb6.size)).mono HB4.out.size)⟩
                  case measure => simp [intOf]; omega
              | true =>
                have hand := shr_yes HS16.out hb
                cases hb2 : sq.testBit x with
                | true =>
                  have hand2 := shr_yes hsq hb2
                  have HE := Lib.hid (run_no (l := l) (a := s) (d := d) (x := x) (s := sq) (by rw [hb, hb2]; rfl) f)
                  have HQR : Hid (q = R) := Lib.hid (by have h := HRN.out; rw [HE.out] at h; omega)
                  clear hb hb2 hb7 hrun hsq hlq
                  go_wp2
                  all_goals
                    go_roundw
                    case rel => exact ⟨d + 1, by omega, by go_num, by have h1 := HGK.out; have h2 := HQR.out; have h3 := HBE.out; congr 1; omega, HB4.out.trans ((hb6.trans (HB7.out.mono hb6.size)).mono HB4.out.size)⟩
                    case measure => simp [intOf]; omega
                | false =>
                  have hand2 := shr_no hsq hb2
                  have hf0 : f ≠ 0 := fun e => by
                    have := full_bit hsq (by omega) (show x < 24 by omega)
                    rw [hb2] at this
                    cases this
                  obtain ⟨g, rfl⟩ : ∃ g, f = g + 1 := ⟨f - 1, by omega⟩
                  have h1 := run_yes (l := l) (d := d) (f := g) hb hb2
                  have h2 := or_len hsq (show x < 24 by omega) hb2
                  have h3 := HAD.out x d
                  have h4 := HAL.out x d
                  obtain ⟨z, hz⟩ : ∃ z, adN l x d = z := ⟨_, rfl⟩
                  rw [hz] at h1 h3 h4
                  have HA3 := Lib.hid h3
                  have HOR := or_step (O := sq) (V := (x : Int)) hsq (by omega) (by omega)
                  rw [Int.toNat_natCast] at HOR
                  have H1 := Lib.hid h1
                  have H2 := Lib.hid h2
                  have hsq2 : Hid (sq ||| 2 ^ x < 2 ^ 24) := Lib.hid (Nat.or_lt_two_pow hsq (Nat.pow_lt_pow_right (by decide) (by omega)))
                  clear hb hb2 hb7 hrun hsq hlq h1 h2 h3 hz hf0
                  go_wp2_with (go_at_call 56; refine (sAdd _ _ l _ _ (x : Int) (d : Int) hx0 hx23 hd0 hd23 HN.out HG.out HI7.out).mono ?_; rw [HA3.out]; rintro e w8 ⟨rfl, hb8⟩)
                  go_roundw
                  case rel => exact ⟨q + 1, g, sq ||| 2 ^ x, z, by go_num, rfl, rfl, by omega, hsq2.out, by rw [H2.out, HLQ.out], h4, by have := HRN.out; rw [H1.out] at this; omega, HB7.out.trans (hb8.mono HB7.out.size)⟩
                  case measure => simp [intOf]; omega
          · obtain rfl : d = P := by omega
            have hdi : ¬ (d : Int) < (d : Int) := by omega
            clear hb4
            go_wp2_with (go_at_call 35; refine (sOrder _ _ l _ _ HN.out HG.out HIb.out).mono ?_; rw [HP.out]; rintro e w6 ⟨rfl, hb6⟩)
            go_roundw
            case rel => exact ⟨k + 1, by omega, by go_num, by rw [HFK.out], HBL.out.trans ((HB4.out.trans (hb6.mono HB4.out.size)).mono HBL.out.size)⟩
            case measure => simp [intOf]; omega
      · obtain rfl : k = c := by omega
        have hki : ¬ (k : Int) < (k : Int) := by omega
        clear hbel
        go_wp2
        go_ret
        exact ⟨rfl, HB.out.trans ((T3.out.trans (HBL.out.mono T3.out.size)).mono (by simp))⟩
end Go.Proofs.YtfkleihnafeoeaaGreatDoor

namespace Go.Proofs.YtfkleihnafeoeaaGreatDoor
open Go.RowKit
set_option maxRecDepth 1000000
theorem qsVos {W0 W : World} {au : Option Addr} {cu : Nat} {l : List Int} {x y : Int} (hi : Ints W0 au l) (hl : l.length ≤ 4) (o : On W0 W) :
    Calls Tryz.prog 7 #[.agg #[.slice au l.length cu], .int .i64 x, .int .i64 y] W fun e w' => e = .returned (.string (vosT (vosK l x y))) ∧ On W0 w' :=
  (sVos W au l _ cu x y rfl (by omega) (o.ints hi)).mono fun _ _ h => ⟨h.1, o.step h.2⟩
theorem qsDfs {W0 W : World} {au : Option Addr} {cu : Nat} {l : List Int} {x : Int} (hi : Ints W0 au l) (hl : l.length ≤ 4) (o : On W0 W) :
    Calls Tryz.prog 11 #[.agg #[.slice au l.length cu], .int .i64 x] W fun e w' => ∃ (a2 : Option Addr) (c2 : Nat), e = .returned (.slice a2 (dfsE l x).length c2) ∧ Ints w' a2 (dfsE l x) ∧ On W0 w' :=
  (sDfs W au l _ cu x rfl (by omega) (o.ints hi)).mono fun _ _ ⟨v, h1, h2, h3⟩ => by
    obtain ⟨a2, c2, rfl⟩ := own_slice h2
    exact ⟨a2, c2, h1, own_ints h2, o.step h3⟩
theorem qsCom {W0 W : World} {au : Option Addr} {cu : Nat} {l : List Int} {x y : Int} (hi : Ints W0 au l) (hl : l.length ≤ 4) (o : On W0 W) :
    Calls Tryz.prog 18 #[.agg #[.slice au l.length cu], .int .i64 x, .int .i64 y] W fun e w' => e = .returned (.tuple #[.int .i64 (comE l x y), .bool (comB l x y)]) ∧ On W0 w' :=
  (sCom W au l _ cu x y rfl (by omega) (o.ints hi)).mono fun _ _ h => ⟨h.1, o.step h.2⟩
theorem qsPrg {W0 W : World} {au : Option Addr} {cu : Nat} {l : List Int} {x y z : Int} (hi : Ints W0 au l) (hl : l.length ≤ 4) (o : On W0 W) :
    Calls Tryz.prog 23 #[.agg #[.slice au l.length cu], .int .i64 x, .int .i64 y, .int .i64 z] W fun e w' => e = .returned (.int .i64 (prgE l x y z)) ∧ On W0 w' :=
  (sPrgE W au l _ cu x y z rfl (by omega) (o.ints hi)).mono fun _ _ h => ⟨h.1, o.step h.2⟩
theorem qsLng {W0 W : World} {au : Option Addr} {cu : Nat} {l : List Int} {x : Int} (hi : Ints W0 au l) (hl : l.length ≤ 4) (o : On W0 W) :
    Calls Tryz.prog 24 #[.agg #[.slice au l.length cu], .int .i64 x] W fun e w' => e = .returned (.int .i64 (lngE l x)) ∧ On W0 w' :=
  (sLng W au l _ cu x rfl (by omega) (o.ints hi)).mono fun _ _ h => ⟨h.1, o.step h.2⟩
theorem qsPrm {W0 W : World} {au : Option Addr} {cu : Nat} {l : List Int} (hi : Ints W0 au l) (hl : l.length ≤ 4) (o : On W0 W) :
    Calls Tryz.prog 26 #[.agg #[.slice au l.length cu]] W fun e w' => e = .returned (.bool (prmB l)) ∧ On W0 w' :=
  (sPrm W au l _ cu  rfl (by omega) (o.ints hi)).mono fun _ _ h => ⟨h.1, o.step h.2⟩
end Go.Proofs.YtfkleihnafeoeaaGreatDoor

namespace Go.Proofs.YtfkleihnafeoeaaGreatDoor
open Go.RowKit
set_option maxRecDepth 1000000
set_option maxHeartbeats 4000000 in
theorem iDiff {l : List Int} (hg : grpB l = true) (w : World) (s : Nat) (hs : s < 2 ^ (prodI l).toNat) (h0 : s ≠ 0) :
    Calls Tryz.prog 39 #[tV (l.getD 0 1) (l.getD 1 1) (l.getD 2 1), .int .u64 s] w fun e w' => e = .returned (.int .u64 (dsN l s : Nat)) ∧ Below w.heap.size w w' := by
  have hp := (ords_grp hg).prod
  have HP := prod_pad (grpB_true hg).1
  have hs24 : s < 16777216 := grp_pow hg hs
  have HRN := Lib.hid (fun (W : World) (x d : Nat) hx hd => iRun hg W s x d hs hx hd)
  have HPR := Lib.hid (fun (W : World) => iProduct W _ _ _ (tri_grp hg))
  have HFU := Lib.hid (fun (W : World) => iFull W _ _ _ (((2 ^ (prodI l).toNat - 1 : Nat) : Int)) (tri_grp hg) (by
    rw [← HP]
    have := Nat.two_pow_pos (prodI l).toNat
    omega))
  have HFR := Lib.hid (fun d => fine_run hg hs h0 (d := d))
  have HDL := Lib.hid (fun k => grp_pow hg (ds_lt l s k))
  have HD0 : Hid (dsK l s 0 = 2 ^ (prodI l).toNat - 1) := Lib.hid rfl
  have HDE : Hid (dsN l s = dsK l s (prodI l).toNat) := Lib.hid rfl
  have HRL : Hid (∀ x d, runN l s d 24 x 0 ≤ 24) := Lib.hid (fun x d => by
    have := run_le (l := l) (d := d) hs24 24 x 0 (by decide) (fun i hi => by simp at hi)
    have : (bitsN s).length ≤ 24 := upK_len s 24
    omega)
  have HCL : Hid ((bitsN s).length ≤ 24) := Lib.hid (upK_len s 24)
  have HC := Lib.hid (fun (W : World) => iCnt W s hs24)
  rw [← HP] at HPR
  obtain ⟨N, hNN⟩ : ∃ N : Nat, (prodI l).toNat = N := ⟨_, rfl⟩
  have hpN : prodI l = (N : Int) := by omega
  rw [hNN] at HRN HFU HFR HD0 HDE
  rw [hpN] at HPR
  have hN24 : N ≤ 24 := by omega
  rw [HDE.out]
  rw [← HD0.out] at HFU
  obtain ⟨c, hc⟩ : ∃ c, (bitsN s).length = c := ⟨_, rfl⟩
  rw [hc] at HFR HC HCL
  obtain ⟨p, EP⟩ : ∃ p, Hid (l.getD 0 1 = p) := ⟨_, Lib.hid rfl⟩
  obtain ⟨q, EQ⟩ : ∃ q, Hid (l.getD 1 1 = q) := ⟨_, Lib.hid rfl⟩
  obtain ⟨r, ER⟩ : ∃ r, Hid (l.getD 2 1 = r) := ⟨_, Lib.hid rfl⟩
  rw [EP.out, EQ.out, ER.out] at HRN HPR HFU
  rw [EP.out, EQ.out, ER.out]
  have R0 := Lib.hid (heap_alloc_new w (.cells #[.int .i64 p, .int .i64 q, .int .i64 r] 44))
  obtain ⟨c0, c1, c2, _, _, _⟩ := trip_cell R0.out
  have HB := Lib.hid (Joins.below_alloc1 w (.cells #[.int .i64 p, .int .i64 q, .int .i64 r] 44))
  clear hg hp hs24 hs h0 hNN hpN hc HP
  go_enter Tryz.func39, Tryz.ntmps39
  go_wp2
  go_step3
  go_wp2_with (go_at_call 32; refine (HFU.out _).mono ?_; rintro e w1 ⟨rfl, hb1⟩; have T1 := Lib.hid (HB.out.trans (hb1.mono HB.out.size)); have R1 := Lib.hid (keepH hb1 (Array.getElem?_eq_some_iff.1 R0.out).1 R0.out); obtain ⟨d0, d1, d2, _, _, _⟩ := trip_cell R1.out)
  go_step3
  go_wp2_with (go_at_call 33; refine (HPR.out _).mono ?_; rintro e w2 ⟨rfl, hb2⟩; have T2 := Lib.hid (T1.out.trans (hb2.mono T1.out.size)); have R2 := Lib.hid (keepH hb2 (Array.getElem?_eq_some_iff.1 R1.out).1 R1.out))
  go_loopg [5, 12] N (fun g fv kv wx => ∃ k : Nat, k + g = N ∧ kv = .int .i64 k ∧ fv = .int .u64 (dsK l s k : Nat) ∧ Hid (Below w.heap.size w wx) ∧ Hid (wx.heap[w.heap.size]? = some (.cells #[.int .i64 p, .int .i64 q, .int .i64 r] 44 (0, 0))))
  case atStart => exact ⟨0, by omega, rfl, rfl, T2, R2⟩
  case round =>
    obtain ⟨k, hkg, rfl, rfl, HBW, HGW⟩ := hrel
    cases gk with
    | zero =>
      obtain rfl : k = N := by omega
      go_wp2
      try rw [Exit.noGoto_ret]
      go_ret
      exact ⟨rfl, HBW.out⟩
    | succ g =>
      have hkN : k < N := by omega
      have hki : (k : Int) < (N : Int) := by omega
      have HFK := Lib.hid (HFR.out k)
      have hD24 := HDL.out k
      have HYE := Lib.hid (fun (h : fineB l s k = true) => ds_yes h)
      have HNO := Lib.hid (fun (h : fineB l s k = false) => ds_no h)
      obtain ⟨D, hDD⟩ : ∃ D, dsK l s k = D := ⟨_, rfl⟩
      rw [hDD] at hD24 HYE HNO
      rw [hDD]
      have hk23 : k ≤ 23 := by omega
      have HWO := Lib.hid (fun (W : World) => iWithout W D k hD24 hk23)
      obtain ⟨e0, e1, e2, _, _, _⟩ := trip_cell HGW.out
      clear hDD hD24
      obtain ⟨wa, rfl⟩ : ∃ W, W = wr := ⟨wr, rfl⟩
      go_wp2_with (go_at_call 33; refine (HPR.out _).mono ?_; rintro e w3 ⟨rfl, hb3⟩; have T3 := Lib.hid (HBW.out.trans (hb3.mono HBW.out.size)); have R3 := Lib.hid (keepH hb3 (Array.getElem?_eq_some_iff.1 HGW.out).1 HGW.out))
      go_loopg [17] N (fun g jv wx => ∃ j : Nat, j + g = N ∧ jv = .int .i64 j ∧ Hid (∀ x, x < j → runN l s k 24 x 0 ≠ c) ∧ Hid (Below w.heap.size w wx) ∧ Hid (wx.heap[w.heap.size]? = some (.cells #[.int .i64 p, .int .i64 q, .int .i64 r] 44 (0, 0))))
      case atStart => exact ⟨0, by omega, rfl, Lib.hid (fun x h => by omega), T3, R3⟩
      case round =>
        obtain ⟨j, hjg, rfl, HNX, HBX, HGX⟩ := hrel
        cases gk with
        | zero =>
          obtain rfl : j = N := by omega
          have HE := Lib.hid (HNO.out (by
            cases hf : fineB l s k with
            | false => rfl
            | true =>
              obtain ⟨x, hx, e⟩ := HFK.out.1 hf
              exact absurd e (HNX.out x hx)))
          clear HNX
          go_wp2_with (go_at_call 69; refine (HWO.out _).mono ?_; rintro e w4 ⟨rfl, rfl⟩)
          go_roundg g
          case measure => omega
          case rel => exact ⟨k + 1, by omega, by go_num, by rw [HE.out], HBX, HGX⟩
        | succ g2 =>
          have hjN : j < N := by omega
          have hji : (j : Int) < (N : Int) := by omega
          have HR := Lib.hid (fun (W : World) => HRN.out W j k hjN hkN)
          have hrl := HRL.out j k
          have hcl := HCL.out
          have HNJ := Lib.hid (fun (h : runN l s k 24 j 0 ≠ c) x (hx : x < j + 1) => if e : x = j then (by rw [e]; exact h) else HNX.out x (by omega))
          obtain ⟨R, hRR⟩ : ∃ R, runN l s k 24 j 0 = R := ⟨_, rfl⟩
          rw [hRR] at HR hrl HNJ
          obtain ⟨f0, f1, f2, _, _, _⟩ := trip_cell HGX.out
          by_cases he : R = c
          · have HE := Lib.hid (HYE.out (HFK.out.2 ⟨j, hjN, hRR.trans he⟩))
            have het : ((R : Int) == (c : Int)) = true := by simp [he]
            clear he hRR HNX HNJ
            go_wp2_with (first
              | (go_at_call 30; refine (HC.out _).mono ?_; rintro e w5 ⟨rfl, rfl⟩)
              | (go_at_call 43; refine (HR.out _).mono ?_; rintro e w4 ⟨rfl, hb4⟩; have T4 := Lib.hid (HBX.out.trans (hb4.mono HBX.out.size)); have R4 := Lib.hid (keepH hb4 (Array.getElem?_eq_some_iff.1 HGX.out).1 HGX.out)))
            go_roundg g
            case measure => omega
            case rel => exact ⟨k + 1, by omega, by go_num, by rw [HE.out], T4, R4⟩
          · have HNJ2 := Lib.hid (HNJ.out he)
            have het : ((R : Int) == (c : Int)) = false := by simp; omega
            clear he hRR HNX HNJ
            go_wp2_with (first
              | (go_at_call 30; refine (HC.out _).mono ?_; rintro e w5 ⟨rfl, rfl⟩)
              | (go_at_call 43; refine (HR.out _).mono ?_; rintro e w4 ⟨rfl, hb4⟩; have T4 := Lib.hid (HBX.out.trans (hb4.mono HBX.out.size)); have R4 := Lib.hid (keepH hb4 (Array.getElem?_eq_some_iff.1 HGX.out).1 HGX.out)))
            go_roundg g2
            case measure => omega
            case rel => exact ⟨j + 1, by omega, by go_num, HNJ2, T4, R4⟩
set_option maxHeartbeats 4000000 in
theorem iLng (w : World) (a : Option Addr) (l : List Int) (n cap : Nat) (s : Int) (hn : n = l.length) (hm : n ≤ 9223372036854775807) (hi : Ints w a l) :
    Calls Tryz.prog 13 #[.agg #[.slice a n cap], .int .i64 s] w fun e w' => e = .returned (.int .i64 (lngE l s)) ∧ Below w.heap.size w w' := by
  have HI := Lib.hid (ints_alloc hi (.cells #[.slice a n cap] 26))
  have HN := Lib.hid hn
  have C1 := newC w (.slice a n cap) 26 (n := w.heap.size) rfl
  have HB := Lib.hid (Joins.below_alloc1 w (.cells #[.slice a n cap] 26))
  have T0 := Lib.hid (Below.refl (w.alloc (.cells #[.slice a n cap] 26)).heap.size (w.alloc (.cells #[.slice a n cap] 26)))
  clear hi hn
  cases hs : isS l s with
  | false =>
    have HS := Lib.hid hs
    rw [show lngE l s = -1 by unfold lngE; rw [if_neg (by simp [hs])]]
    clear hs
    go_enter Tryz.func13, Tryz.ntmps13
    go_wp2_with (go_at_call 38; refine (iSetIn_no _ _ _ _ _ _ HN.out hm (HI.out.below rfl T0.out) HS.out).mono ?_; rintro e w1 ⟨rfl, hb1⟩; have TA := Lib.hid ((HB.out.trans (hb1.mono (by simp))).alloc (Nat.le_trans (by simp) hb1.size) (.cells #[.int .i64 0, .int .i64 0, .int .i64 0] 44)); have HAL := Lib.hid (heap_alloc_new w1 (.cells #[.int .i64 0, .int .i64 0, .int .i64 0] 44)); obtain ⟨y0, y1, y2, _, _, _⟩ := trip_cell HAL.out)
    go_ret
    exact ⟨rfl, TA.out⟩
  | true =>
    have HS := Lib.hid hs
    obtain ⟨hg, s, rfl, hsn, hs24⟩ := isS_true hs
    rw [show lngE l (s : Int) = ((lngN l s : Nat) : Int) by unfold lngE; rw [if_pos hs, Int.toNat_natCast], lng_swap hg hsn]
    have hp := (ords_grp hg).prod
    have HP := prod_pad (grpB_true hg).1
    have HRN := Lib.hid (fun (W : World) (x d : Nat) hx hd => iRun hg W s x d hsn hx hd)
    have HPR := Lib.hid (fun (W : World) => iProduct W _ _ _ (tri_grp hg))
    have HRL : Hid (∀ x d, runN l s d 24 x 0 ≤ 24) := Lib.hid (fun x d => by
      have := run_le (l := l) (d := d) hs24 24 x 0 (by decide) (fun i hi => by simp at hi)
      have : (bitsN s).length ≤ 24 := upK_len s 24
      omega)
    rw [← HP] at HPR
    obtain ⟨N, hNN⟩ : ∃ N : Nat, (prodI l).toNat = N := ⟨_, rfl⟩
    have hpN : prodI l = (N : Int) := by omega
    rw [hNN] at HRN ⊢
    rw [hpN] at HPR
    have hN24 : N ≤ 24 := by omega
    have HFS := Lib.hid (fun k => show mxN (fun d => mxN (fun x => runN l s d 24 x 0) N) (k + 1) = max (mxN (fun d => mxN (fun x => runN l s d 24 x 0) N) k) (mxN (fun x => runN l s k 24 x 0) N) from rfl)
    have HFB : Hid (∀ k, mxN (fun d => mxN (fun x => runN l s d 24 x 0) N) k ≤ 24) := Lib.hid (fun k => mx_le k (fun i _ => mx_le N (fun x _ => HRL.out x i)))
    have HF0 : Hid (mxN (fun d => mxN (fun x => runN l s d 24 x 0) N) 0 = 0) := Lib.hid rfl
    obtain ⟨FF, hFF⟩ : ∃ f, mxN (fun d => mxN (fun x => runN l s d 24 x 0) N) = f := ⟨_, rfl⟩
    rw [hFF] at HFS HFB HF0 ⊢
    obtain ⟨p, EP⟩ : ∃ p, Hid (l.getD 0 1 = p) := ⟨_, Lib.hid rfl⟩
    obtain ⟨q, EQ⟩ : ∃ q, Hid (l.getD 1 1 = q) := ⟨_, Lib.hid rfl⟩
    obtain ⟨r, ER⟩ : ∃ r, Hid (l.getD 2 1 = r) := ⟨_, Lib.hid rfl⟩
    rw [EP.out, EQ.out, ER.out] at HRN HPR
    clear hs hg hs24 hsn hp HP hNN hpN hFF
    go_enter Tryz.func13, Tryz.ntmps13
    go_wp2_with (first
      | (go_at_call 33; refine (HPR.out _).mono ?_; rintro e w2 ⟨rfl, hb2⟩; have T2 := Lib.hid (TA.out.trans (hb2.mono TA.out.size)); have R2 := Lib.hid (keepH hb2 (Array.getElem?_eq_some_iff.1 HAL.out).1 HAL.out))
      | (go_at_call 38; refine (iSetIn_yes _ _ _ _ _ _ HN.out hm (HI.out.below rfl T0.out) HS.out).mono ?_; rw [EP.out, EQ.out, ER.out]; rintro e w1 ⟨rfl, hb1⟩; have TA := Lib.hid ((HB.out.trans (hb1.mono (by simp))).alloc (Nat.le_trans (by simp) hb1.size) (.cells #[.int .i64 p, .int .i64 q, .int .i64 r] 44)); have HAL := Lib.hid (heap_alloc_new w1 (.cells #[.int .i64 p, .int .i64 q, .int .i64 r] 44)); obtain ⟨y0, y1, y2, _, _, _⟩ := trip_cell HAL.out))
    have hwb : w.heap.size ≤ w1.heap.size := by have := hb1.size; simp at this; omega
    go_loopw [8, 22] (fun b i wr => ∃ k : Nat, k ≤ N ∧ i = .int .i64 k ∧ b = .int .i64 (FF k : Nat) ∧ Hid (Below w.heap.size w wr) ∧ Hid (wr.heap[w1.heap.size]? = some (.cells #[.int .i64 p, .int .i64 q, .int .i64 r] 44 (0, 0)))) (fun _ i _ => N - (intOf i).toNat)
    case atStart => exact ⟨0, Nat.zero_le _, rfl, by rw [HF0.out]; rfl, T2, R2⟩
    case round =>
      obtain ⟨k, hk, rfl, rfl, HBW, HGW⟩ := hrel
      have hfb := HFB.out k
      by_cases hlt : k < N
      · have hki : (k : Int) < (N : Int) := by omega
        have HFK := Lib.hid (HFS.out k)
        have HGS := Lib.hid (fun x => show mxN (fun x => runN l s k 24 x 0) (x + 1) = max (mxN (fun x => runN l s k 24 x 0) x) (runN l s k 24 x 0) from rfl)
        have HGB : Hid (∀ x, mxN (fun x => runN l s k 24 x 0) x ≤ 24) := Lib.hid (fun x => mx_le x (fun y _ => HRL.out y k))
        have HG0 : Hid (mxN (fun x => runN l s k 24 x 0) 0 = 0) := Lib.hid rfl
        obtain ⟨GG, hGG⟩ : ∃ f, mxN (fun x => runN l s k 24 x 0) = f := ⟨_, rfl⟩
        rw [hGG] at HGS HGB HG0 HFK
        obtain ⟨B0, hB0⟩ : ∃ b, FF k = b := ⟨_, rfl⟩
        rw [hB0] at HFK hfb
        rw [hB0]
        obtain ⟨e0, e1, e2, _, _, _⟩ := trip_cell HGW.out
        clear hGG hB0
        go_wp2_with (go_at_call 33; refine (HPR.out _).mono ?_; rintro e w3 ⟨rfl, hb3⟩; have T3 := Lib.hid (HBW.out.trans (hb3.mono HBW.out.size)); have R3 := Lib.hid (keepH hb3 (Array.getElem?_eq_some_iff.1 HGW.out).1 HGW.out))
        go_loopw [8, 27] (fun b i wr => ∃ j : Nat, j ≤ N ∧ i = .int .i64 j ∧ b = .int .i64 (max B0 (GG j) : Nat) ∧ Hid (Below w.heap.size w wr) ∧ Hid (wr.heap[w1.heap.size]? = some (.cells #[.int .i64 p, .int .i64 q, .int .i64 r] 44 (0, 0)))) (fun _ i _ => N - (intOf i).toNat)
        case atStart => exact ⟨0, Nat.zero_le _, rfl, by rw [HG0.out, Nat.max_eq_left (Nat.zero_le _)], T3, R3⟩
        case round =>
          obtain ⟨j, hj, rfl, rfl, HBX, HGX⟩ := hrel
          have hgb := HGB.out j
          by_cases hjl : j < N
          · have hji : (j : Int) < (N : Int) := by omega
            have HGJ := Lib.hid (HGS.out j)
            have HR := Lib.hid (fun (W : World) => HRN.out W j k hjl hlt)
            have hrl := HRL.out j k
            obtain ⟨R, hRR⟩ : ∃ R, runN l s k 24 j 0 = R := ⟨_, rfl⟩
            rw [hRR] at HR HGJ hrl
            obtain ⟨BE, hBE⟩ : ∃ b, max B0 (GG j) = b := ⟨_, rfl⟩
            have HBE := Lib.hid hBE
            have hbe : BE ≤ 24 := by omega
            rw [hBE]
            obtain ⟨f0, f1, f2, _, _, _⟩ := trip_cell HGX.out
            clear hRR hBE
            go_wp2_with (go_at_call 43; refine (HR.out _).mono ?_; rintro e w4 ⟨rfl, hb4⟩; have T4 := Lib.hid (HBX.out.trans (hb4.mono HBX.out.size)); have R4 := Lib.hid (keepH hb4 (Array.getElem?_eq_some_iff.1 HGX.out).1 HGX.out))
            all_goals
              go_roundw
              case rel => exact ⟨j + 1, by omega, by go_num, by have h1 := HGJ.out; have h3 := HBE.out; congr 1; omega, T4, R4⟩
              case measure => simp [intOf]; omega
          · obtain rfl : j = N := by omega
            have hji : ¬ (j : Int) < (j : Int) := by omega
            go_wp2
            go_roundw
            case rel => exact ⟨k + 1, by omega, by go_num, by rw [HFK.out], HBX, HGX⟩
            case measure => simp [intOf]; omega
      · obtain rfl : k = N := by omega
        have hki : ¬ (k : Int) < (k : Int) := by omega
        go_wp2
        go_ret
        exact ⟨rfl, HBW.out⟩
end Go.Proofs.YtfkleihnafeoeaaGreatDoor

namespace Go.Proofs.YtfkleihnafeoeaaGreatDoor
open Go.RowKit Go.Shelf
set_option maxRecDepth 1000000
/-- How the body of a round ends: it goes on; what is no cells lies as it lay; the invariant holds of one element more. -/
def eachPost (I : List Nat → World → Prop) (xs : List Nat) (W : World) : Exit → Act → World → Prop := fun e _ W' => e = .normal ∧ KeepsOthers W W' ∧ I xs W'
set_option maxHeartbeats 1000000 in
theorem each_loopB {n : Nat} {g : Operand} {p : Tmp} {assign body : Code} {Q : Exit → Act → World → Prop} {a : Act} {w : World}
    (s : Nat) (hs : s < 2 ^ 24) (hg : a.eval g = .func (.func 64) #[.int .u64 s] #[]) (B : Nat)
    (I : List Nat → World → Prop) (hI : OwnFrom w.heap.size I) (hT : ∀ pre W, I pre W → TabZ B W) (h0 : I [] w) (a₁ : Nat → Act)
    (hassign : ∀ (l x : Nat) (W : World) (K : Act → World → Prop), K (a₁ x) W →
      assign.wpIn (Fence.wide.inRound l) (n - 1 - 1) Tryz.prog (Exit.then K (fun _ _ _ => False)) { tmps := a.tmps.setIfInBounds p (.int .i64 (x : Nat)), defers := [] } W)
    (hbody : ∀ (l : Nat) (pre : List Nat) (x : Nat) (W : World), x < 24 → s.testBit x = true → pre.length < 24 → I pre W →
      body.wpIn (Fence.wide.inRound l) (n - 1 - 1) Tryz.prog (eachPost I (pre ++ [x]) W) (a₁ x) W)
    (hdone : ∀ (D : Nat) (W : World), w.heap.size ≤ D → I (bitsN s) W → W.heap[D]? = some (.deferred (some [])) →
      Q .normal { a with defers := { target := .collected D, args := #[] } :: a.defers } W) :
    (Code.rangeFunc g #[p] assign body).wpIn Fence.wide n Tryz.prog Q a w := by
  refine wpIn_rangeFunc ?_
  intro fn hfn
  -- the statement's own block of deferred calls, and the loop's record behind it
  generalize hD : w.heap.size = D at *
  let lp : LoopState → Loop := fun st => { state := st, pending := none, fn := fn, tmps := a.tmps, params := #[p], assign := assign, body := body, defers := D }
  have elp : ∀ st, lp st = { state := st, pending := none, fn := fn, tmps := a.tmps, params := #[p], assign := assign, body := body, defers := D } := fun _ => rfl
  let V := (w.alloc (.deferred (some []))).alloc (.loop (lp .ready))
  have vL : V.heap[D + 1]? = some (.loop (lp .ready)) := by
    have h := World.alloc_heap_new (w.alloc (.deferred (some []))) (.loop (lp .ready))
    rwa [World.size_alloc, hD] at h
  have vD : V.heap[D]? = some (.deferred (some [])) := by
    have h := World.alloc_heap_new w (.deferred (some []))
    rw [hD] at h
    exact (Below.heap_alloc _ _ _ (by simp; omega)).trans h
  have vI : I [] V := hI.alloc _ (hI.alloc _ h0)
  have henter : (Instr.enterLoop fn a.tmps #[p] assign body Fence.wide.round).run Tryz.prog w = .ok (D + 1, [{ target := .collected D, args := #[] }]) V := by
    have h := run_enterLoop_outer (P := Tryz.prog) (w := w) fn a.tmps #[p] assign body
    rw [hD] at h
    exact h
  have eg := enters_of (P := Tryz.prog) Tryz.func64 (by kernel_rfl) rfl
  refine ⟨D + 1, [{ target := .collected D, args := #[] }], V, { target := .fn (.func 64) #[], args := #[.int .u64 s, .func (.yield (D + 1)) #[] #[]] }, V, 64,
    #[.int .u64 s, .func (.yield (D + 1)) #[] #[]], V, henter, ?_, fun _ _ => trivial, ?_, fun h => (by simp [Fence.wide] at h), ?_⟩
  · simp only [resolve, hg]
    simp [go_sem]
  · simp [invoke, go_sem, eg _ _]
  -- what holds between two rounds: the caller's invariant, the record ready, the block as it was laid
  refine (each_in (n - 1) s hs B (D + 1) (fun pre W => I pre W ∧ W.heap[D + 1]? = some (.loop (lp .ready)) ∧ W.heap[D]? = some (.deferred (some [])))
    (fun pre W h => hT pre W h.1) ?round V (And.intro vI (And.intro vL vD))).mono ?done
  case round =>
    rintro pre x W ⟨hi, hl, hk⟩ hx hbt hpl
    have hin : D + 1 < W.heap.size := (Array.getElem?_eq_some_iff.1 hl).1
    have hy := run_yield (P := Tryz.prog) (args := #[Value.int .i64 (x : Nat)]) hl (by rw [elp]; rfl)
    have hy2 : (Instr.yield (D + 1) #[Value.int .i64 (x : Nat)]).run Tryz.prog W = .ok (.round (D + 1) fn (a.tmps.setIfInBounds p (.int .i64 (x : Nat))) assign body) W := by
      rw [hy, elp]; simp
    refine ⟨fn, _, assign, body, hy2, roundIn_of_wpIn hfn ?_⟩
    refine hassign (D + 1) x W _ ⟨_, run_beginRound hl (by rw [elp]), ?_⟩
    -- the record is busy: the body
    obtain ⟨U, hU⟩ : ∃ U, W.putObj (D + 1) (.loop { lp .ready with state := .busy }) = U := ⟨_, rfl⟩
    have uI : I pre U := by rw [← hU]; exact hI.putObj _ hi (by omega) hl rfl
    have uL : U.heap[D + 1]? = some (.loop { lp .ready with state := .busy }) := by rw [← hU]; exact World.putObj_heap_same hin
    have uD : U.heap[D]? = some (.deferred (some [])) := by rw [← hU]; exact (World.putObj_heap_other (by omega)).trans hk
    rw [hU]
    refine wpIn_mono (hbody _ pre x U hx hbt hpl uI) ?_
    rintro e a3 W3 ⟨rfl, hkeep, hi3⟩
    have l3 := hkeep.same _ _ uL rfl
    have d3 := hkeep.same _ _ uD rfl
    have hend := run_endRound (P := Tryz.prog) none l3
    have hin3 : D + 1 < W3.heap.size := (Array.getElem?_eq_some_iff.1 l3).1
    refine ⟨_, _, hend, rfl, hI.putObj _ hi3 (by omega) l3 rfl, ?_, (World.putObj_heap_other (by omega)).trans d3⟩
    exact World.putObj_heap_same hin3
  case done =>
    rintro e W2 ⟨⟨v, rfl⟩, hi, hl, hk⟩
    have hend := run_endLoop (P := Tryz.prog) hl (by rw [elp]; simp)
    exact ⟨none, _, hend, hdone D _ (by omega) (hI.putObj _ hi (by omega) hl rfl) ((World.putObj_heap_other (by omega)).trans hk)⟩
theorem each_loop {n : Nat} {g : Operand} {p : Tmp} {assign body : Code} {Q : Exit → Act → World → Prop} {a : Act} {w : World}
    (s : Nat) (hs : s < 2 ^ 24) (hg : a.eval g = .func (.func 64) #[.int .u64 s] #[]) (B : Nat)
    (I : List Nat → World → Prop) (hI : OwnFrom w.heap.size I) (hT : ∀ pre W, I pre W → TabZ B W) (h0 : I [] w) (a₁ : Nat → Act)
    (hassign : ∀ (l x : Nat) (W : World) (K : Act → World → Prop), K (a₁ x) W →
      assign.wpIn (Fence.wide.inRound l) (n - 1 - 1) Tryz.prog (Exit.then K (fun _ _ _ => False)) { tmps := a.tmps.setIfInBounds p (.int .i64 (x : Nat)), defers := [] } W)
    (hbody : ∀ (l : Nat) (pre : List Nat) (x : Nat) (W : World), x < 24 → pre.length < 24 → I pre W →
      body.wpIn (Fence.wide.inRound l) (n - 1 - 1) Tryz.prog (eachPost I (pre ++ [x]) W) (a₁ x) W)
    (hdone : ∀ (D : Nat) (W : World), w.heap.size ≤ D → I (bitsN s) W → W.heap[D]? = some (.deferred (some [])) →
      Q .normal { a with defers := { target := .collected D, args := #[] } :: a.defers } W) :
    (Code.rangeFunc g #[p] assign body).wpIn Fence.wide n Tryz.prog Q a w :=
  each_loopB s hs hg B I hI hT h0 a₁ hassign (fun l pre x W hx _ hpl hi => hbody l pre x W hx hpl hi) hdone
theorem each_loopP {n : Nat} {g : Operand} {p : Tmp} {assign body : Code} {Q : Exit → Act → World → Prop} {a : Act} {w : World}
    (s : Nat) (hs : s < 2 ^ 24) (hg : a.eval g = .func (.func 64) #[.int .u64 s] #[]) (B : Nat)
    (I : List Nat → World → Prop) (hI : OwnFrom w.heap.size I) (hT : ∀ pre W, I pre W → TabZ B W) (h0 : I [] w) (a₁ : Nat → Act)
    (hassign : ∀ (l x : Nat) (W : World) (K : Act → World → Prop), K (a₁ x) W →
      assign.wpIn (Fence.wide.inRound l) (n - 1 - 1) Tryz.prog (Exit.then K (fun _ _ _ => False)) { tmps := a.tmps.setIfInBounds p (.int .i64 (x : Nat)), defers := [] } W)
    (hbody : ∀ (l : Nat) (pre : List Nat) (x : Nat) (W : World), (∀ z ∈ pre, s.testBit z = true) → s.testBit x = true → pre.length < 24 → I pre W →
      body.wpIn (Fence.wide.inRound l) (n - 1 - 1) Tryz.prog (eachPost I (pre ++ [x]) W) (a₁ x) W)
    (hdone : ∀ (D : Nat) (W : World), w.heap.size ≤ D → I (bitsN s) W → W.heap[D]? = some (.deferred (some [])) →
      Q .normal { a with defers := { target := .collected D, args := #[] } :: a.defers } W) :
    (Code.rangeFunc g #[p] assign body).wpIn Fence.wide n Tryz.prog Q a w :=
  each_loopB s hs hg B (fun pre W => I pre W ∧ ∀ z ∈ pre, s.testBit z = true) (OwnFrom.and hI (fun _ _ _ _ hs _ _ => hs)) (fun pre W h => hT pre W h.1) ⟨h0, fun z hz => by cases hz⟩ a₁ hassign
    (fun l pre x W _ hb hpl hi => wpIn_mono (hbody l pre x W hi.2 hb hpl hi.1) (fun _ _ _ ⟨h1, h2, h3⟩ => ⟨h1, h2, h3, fun z hz => by
      rcases List.mem_append.1 hz with h | h
      · exact hi.2 z h
      · rw [List.mem_singleton.1 h]; exact hb⟩)) (fun D W hD hi hk => hdone D W hD hi.1 hk)
end Go.Proofs.YtfkleihnafeoeaaGreatDoor

namespace Go.Proofs.YtfkleihnafeoeaaGreatDoor
open Go.RowKit Go.Shelf
attribute [local go_sem] Oper.semAt_some
set_option maxRecDepth 1000000
set_option maxHeartbeats 2000000 in
theorem iList (w : World) (s : Nat) (hs : s < 16777216) (B : Nat) (hB0 : B ≤ w.heap.size) (ht : TabZ B w) :
    Calls Tryz.prog 40 #[.int .u64 s] w fun e w' => ∃ v, e = .returned v ∧ w'.ownsRow w.heap.size 3 1 v (bitsN s).length (lstN (bitsN s)) ∧ Below w.heap.size w w' := by
  obtain ⟨i0, hi, hz0, hz1, hz2⟩ := info_parts intInfo
  refine (callsIn_wide (n := 4)).1 ?_
  refine callsIn_of_wp_marks Tryz.func40 rfl trivial ?_ rfl
  simp only [Tryz.ntmps40, List.size_toArray, List.length_cons, List.length_nil, Nat.reduceAdd, Nat.reduceSub, Array.replicate_succ, Array.replicate_zero, List.push_toArray, List.append_toArray, List.nil_append, List.cons_append]
  have hcl := bits_le s
  obtain ⟨c, hc⟩ : ∃ c, Hid ((bitsN s).length = c) := ⟨_, Lib.hid rfl⟩
  have HS := Lib.hid hs
  have hc24 : c ≤ 24 := by rw [← hc.out]; exact hcl
  gi_wp2
  refine ⟨trivial, ?_⟩
  refine (callsIn_wide.2 (iCnt _ s HS.out)).mono ?_
  rw [hc.out]
  rintro e w1 ⟨rfl, rfl⟩
  gi_wp2_with (gi_at_make; refine wpListIn_make_own _ rfl _ _ 24 rfl w.heap.size 3 i0 (.int .i64 0) 1 Tryz.underlying24 hi hz0 hz1 .i64 .i64 c c rfl rfl rfl (by rw [hz2]; omega) (by unfold maxLen; omega) (by simp) ?_; intro w2 hown hgrow)
  have bO := Boxed.new w2 24 (.slice (some ⟨w.heap.size, 0, none⟩) 0 c)
  have hB1 : Below w.heap.size w w2 := (Below.refl w.heap.size w).grown hgrow (Nat.le_refl _) (fun k e => by cases e)
  have hB2 : Below w.heap.size w (w2.alloc (.cells #[.slice (some ⟨w.heap.size, 0, none⟩) 0 c] 24)) := hB1.alloc hB1.size _
  have hsz := hB1.size
  have HB1 := Lib.hid hB1
  refine each_loop s HS.out rfl B
    (fun pre W => (∃ v, Boxed W w2.heap.size 24 v ∧ W.ownsRow w.heap.size 3 1 v pre.length (lstN pre) ∧ True) ∧ Below w.heap.size w W)
    (OwnFrom.and (Own.from (holdsRow_own w.heap.size w2.heap.size 24 3 1 (fun (pre : List Nat) => pre.length) lstN (fun _ _ => True)) _) (ownFrom_below (Nat.le_refl _) (by simp; omega)))
    (fun pre W h => ht.on (h.2.mono hB0))
    ⟨⟨_, bO, (by simpa [lstN] using hown.alloc _), trivial⟩, hB2⟩
    (fun x => { tmps := #[.int .u64 s, undef, .slice none 0 0, .pointer (some ⟨w2.heap.size, 0, none⟩), .int .i64 (x : Nat), .int .u64 s, .int .i64 c, .slice (some ⟨w.heap.size, 0, none⟩) 0 c, .int .u64 s,
      .func (.func 64) #[.int .u64 s] #[], .int .i64 (x : Nat), undef, undef, undef, undef, undef], defers := [] }) ?assign ?body ?done
  case assign =>
    intro l x W K hK
    gi_wp2
    exact hK
  case body =>
    rintro l pre x W hx hpl ⟨⟨v, hv, hrow, -⟩, hB⟩
    have hcl := hv.cell
    gi_wp2_with (gi_at_builtin; refine wpListIn_append_own _ rfl _ _ 24 rfl w.heap.size 3 i0 (.int .i64 0) 1 8 Tryz.underlying24 hi hz0 hz1 hz2 rfl (by decide) _ _ _ rfl (hrow.alloc _) ⟨W.heap.size, 0, none⟩ 1 1 [.int .i64 (x : Nat)] rfl rfl (cell_one_new _ _ _) (by simp [Value.oneCell']) (by unfold maxLen; omega) (by omega) (by have := hB.size; simp; omega) ?_; intro v' w3 hown' hgrow' _; obtain ⟨g', cap', rfl⟩ := ownsRow_succ hown'; obtain ⟨hv1, hv2, hr2, hk2, hb2⟩ := hv.appended (by decide) hrow hB.size hsz hown' hgrow'; have hc1 := hv1.cell; have hf1 := hv1.frozen)
    exact ⟨rfl, hk2, ⟨_, hv2, by rw [lstN_snoc, List.length_append]; exact hr2, trivial⟩, hB.trans hb2⟩
  case done =>
    rintro D W hD ⟨⟨v, hv, hrow, -⟩, hB⟩ hK
    have hcl := hv.cell
    gi_wp2
    refine ⟨by simp, .inl ⟨_, _, rfl, run_takeDeferred hK, ?_⟩⟩
    exact ⟨_, results_tmp rfl _ _ _, v, rfl, ownsRow_putObj hrow _ hK rfl, hB.trans (belowK_b (w := w) (Nat.le_refl _) W D _ _ (by simp at hD; omega) hK rfl rfl)⟩
end Go.Proofs.YtfkleihnafeoeaaGreatDoor

namespace Go.Proofs.YtfkleihnafeoeaaGreatDoor
open Go.RowKit Go.Shelf
set_option maxRecDepth 1000000
set_option maxHeartbeats 4000000 in
theorem iDfs (w : World) (a : Option Addr) (l : List Int) (n cap : Nat) (s : Int) (hn : n = l.length) (hm : n ≤ 9223372036854775807) (hi : Ints w a l) (B : Nat) (hB0 : B ≤ w.heap.size) (ht : TabZ B w) :
    Calls Tryz.prog 9 #[.agg #[.slice a n cap], .int .i64 s] w fun e w' => ∃ v, e = .returned v ∧ w'.ownsRow w.heap.size 3 1 v (dfsE l s).length ((dfsE l s).map (Value.int .i64)) ∧ Below w.heap.size w w' := by
  have HTZ := Lib.hid ht
  clear ht
  have HI := Lib.hid (ints_alloc hi (.cells #[.slice a n cap] 26))
  have HN := Lib.hid hn
  have C1 := newC w (.slice a n cap) 26 (n := w.heap.size) rfl
  have HB := Lib.hid (Joins.below_alloc1 w (.cells #[.slice a n cap] 26))
  have T0 := Lib.hid (Below.refl (w.alloc (.cells #[.slice a n cap] 26)).heap.size (w.alloc (.cells #[.slice a n cap] 26)))
  clear hi hn
  cases hs : isS l s with
  | false =>
    have HS := Lib.hid hs
    rw [show dfsE l s = [] by unfold dfsE; rw [if_neg (by simp [hs])]]
    clear hs
    go_enter Tryz.func9, Tryz.ntmps9
    go_wp2_with (go_at_call 38; refine (iSetIn_no _ _ _ _ _ _ HN.out hm (HI.out.below rfl T0.out) HS.out).mono ?_; rintro e w1 ⟨rfl, hb1⟩; have TA := Lib.hid ((HB.out.trans (hb1.mono (by simp))).alloc (Nat.le_trans (by simp) hb1.size) (.cells #[.int .i64 0, .int .i64 0, .int .i64 0] 44)); have HAL := Lib.hid (heap_alloc_new w1 (.cells #[.int .i64 0, .int .i64 0, .int .i64 0] 44)); obtain ⟨y0, y1, y2, _, _, _⟩ := trip_cell HAL.out)
    go_ret
    exact ⟨_, rfl, World.ownsRow_nil _ _ _ _, TA.out⟩
  | true =>
    have HS := Lib.hid hs
    obtain ⟨hg, s, rfl, hsn, hs24⟩ := isS_true hs
    by_cases h0 : s = 0
    · subst h0
      rw [show dfsE l ((0 : Nat) : Int) = [] by unfold dfsE; rw [if_neg (by simp)]]
      obtain ⟨p, EP⟩ : ∃ p, Hid (l.getD 0 1 = p) := ⟨_, Lib.hid rfl⟩
      obtain ⟨q, EQ⟩ : ∃ q, Hid (l.getD 1 1 = q) := ⟨_, Lib.hid rfl⟩
      obtain ⟨r, ER⟩ : ∃ r, Hid (l.getD 2 1 = r) := ⟨_, Lib.hid rfl⟩
      clear hs hsn hg hs24
      go_enter Tryz.func9, Tryz.ntmps9
      go_wp2_with (go_at_call 38; refine (iSetIn_yes _ _ _ _ _ _ HN.out hm (HI.out.below rfl T0.out) HS.out).mono ?_; rw [EP.out, EQ.out, ER.out]; rintro e w1 ⟨rfl, hb1⟩; have TA := Lib.hid ((HB.out.trans (hb1.mono (by simp))).alloc (Nat.le_trans (by simp) hb1.size) (.cells #[.int .i64 p, .int .i64 q, .int .i64 r] 44)); have HAL := Lib.hid (heap_alloc_new w1 (.cells #[.int .i64 p, .int .i64 q, .int .i64 r] 44)); obtain ⟨y0, y1, y2, _, _, _⟩ := trip_cell HAL.out)
      go_ret
      exact ⟨_, rfl, World.ownsRow_nil _ _ _ _, TA.out⟩
    · have h1 : ((s : Int) == 0) = false := by simp; omega
      have hdf := dfs_yes hs (by omega)
      have HDI := Lib.hid (fun (W : World) => iDiff hg W s hsn h0)
      have HD24 : Hid (dsN l s < 16777216) := Lib.hid (grp_pow hg (ds_lt l s _))
      rw [hdf]
      obtain ⟨D, hDD⟩ : ∃ D, dsN l s = D := ⟨_, rfl⟩
      rw [hDD] at HDI HD24 ⊢
      have HLI : Hid (((bitsN D).map (fun (x : Nat) => (x : Int))).map (Value.int .i64) = lstN (bitsN D)) := Lib.hid (by simp [lstN])
      have HLL : Hid (((bitsN D).map (fun (x : Nat) => (x : Int))).length = (bitsN D).length) := Lib.hid (List.length_map ..)
      obtain ⟨p, EP⟩ : ∃ p, Hid (l.getD 0 1 = p) := ⟨_, Lib.hid rfl⟩
      obtain ⟨q, EQ⟩ : ∃ q, Hid (l.getD 1 1 = q) := ⟨_, Lib.hid rfl⟩
      obtain ⟨r, ER⟩ : ∃ r, Hid (l.getD 2 1 = r) := ⟨_, Lib.hid rfl⟩
      rw [EP.out, EQ.out, ER.out] at HDI
      clear hs hsn hg hDD hdf h0 hs24
      go_enter Tryz.func9, Tryz.ntmps9
      go_wp2_with (first
        | (go_at_call 40; refine (iList _ D HD24.out B (Nat.le_trans hB0 T2.out.size) (HTZ.out.on (T2.out.mono hB0))).mono ?_; rintro e w4 ⟨v4, rfl, ho4, hb4⟩)
        | (go_at_call 39; refine (HDI.out _).mono ?_; rintro e w2 ⟨rfl, hb2⟩; have T2 := Lib.hid (TA.out.trans (hb2.mono TA.out.size)))
        | (go_at_call 38; refine (iSetIn_yes _ _ _ _ _ _ HN.out hm (HI.out.below rfl T0.out) HS.out).mono ?_; rw [EP.out, EQ.out, ER.out]; rintro e w1 ⟨rfl, hb1⟩; have TA := Lib.hid ((HB.out.trans (hb1.mono (by simp))).alloc (Nat.le_trans (by simp) hb1.size) (.cells #[.int .i64 p, .int .i64 q, .int .i64 r] 44)); have HAL := Lib.hid (heap_alloc_new w1 (.cells #[.int .i64 p, .int .i64 q, .int .i64 r] 44)); obtain ⟨y0, y1, y2, _, _, _⟩ := trip_cell HAL.out))
      go_ret
      exact ⟨_, rfl, by rw [HLI.out, HLL.out]; exact Joins.ownsRow_le ho4 T2.out.size, T2.out.trans (hb4.mono T2.out.size)⟩
set_option maxHeartbeats 1000000 in
theorem iIsPr (w : World) (a : Option Addr) (l : List Int) (n cap : Nat) (s : Int) (hn : n = l.length) (hm : n ≤ 9223372036854775807) (hi : Ints w a l) (B : Nat) (hB0 : B ≤ w.heap.size) (ht : TabZ B w) :
    Calls Tryz.prog 12 #[.agg #[.slice a n cap], .int .i64 s] w fun e w' => e = .returned (.bool (decide (0 < ((dfsE l s).length : Int)))) ∧ Below w.heap.size w w' := by
  have HTZ := Lib.hid ht
  clear ht
  have HI := Lib.hid (ints_alloc hi (.cells #[.slice a n cap] 26))
  have HN := Lib.hid hn
  have C1 := newC w (.slice a n cap) 26 (n := w.heap.size) rfl
  have HB := Lib.hid (Joins.below_alloc1 w (.cells #[.slice a n cap] 26))
  have T0 := Lib.hid (Below.refl (w.alloc (.cells #[.slice a n cap] 26)).heap.size (w.alloc (.cells #[.slice a n cap] 26)))
  clear hi hn
  go_enter Tryz.func12, Tryz.ntmps12
  go_wp2_with (go_at_call 9; refine (iDfs _ _ _ _ _ _ HN.out hm (HI.out.below rfl T0.out) B (Nat.le_trans hB0 (by simp)) (HTZ.out.on (HB.out.mono hB0))).mono ?_; rintro e w1 ⟨v1, rfl, ho1, hb1⟩; obtain ⟨a1, cap1, rfl⟩ := own_slice ho1; have T1 := Lib.hid (T0.out.trans (hb1.mono T0.out.size)); clear ho1)
  go_ret
  exact ⟨by rw [show decide (0 < ((dfsE l s).length : Int)) = decide (0 < (dfsE l s).length) from by simp]; rfl, HB.out.trans (T1.out.mono (by simp))⟩
end Go.Proofs.YtfkleihnafeoeaaGreatDoor

namespace Go.Proofs.YtfkleihnafeoeaaGreatDoor
open Go.RowKit
set_option maxRecDepth 1000000
theorem ldS_at {P d : Nat} (h2 : 2 ≤ d) (h : d < P) : ldS P (P - d + 1) = if P % d = 0 then d else ldS P (P - (d + 1) + 1) := by
  show (if P % (P - (P - d)) = 0 then P - (P - d) else ldS P (P - d)) = _
  rw [show P - (P - d) = d by omega, show P - (d + 1) + 1 = P - d by omega]
theorem ldS_end {P d : Nat} (h : ¬ d < P) : ldS P (P - d + 1) = P := by
  rw [show P - d + 1 = 0 + 1 by omega]
  show (if P % (P - 0) = 0 then P - 0 else ldS P 0) = P
  simp
set_option maxHeartbeats 1000000 in
theorem iLd (w : World) (P : Nat) (h1 : 1 ≤ P) (h24 : P ≤ 24) : Calls Tryz.prog 58 #[.int .i64 P] w fun e w' => e = .returned (.int .i64 (ldN P : Nat)) ∧ w = w' := by
  go_enter Tryz.func58, Tryz.ntmps58
  go_wp2
  go_loopw [3] (fun i wr => ∃ d : Nat, 2 ≤ d ∧ (d ≤ P ∨ P = 1) ∧ i = .int .i64 d ∧ Hid (ldN P = ldS P (P - d + 1)) ∧ w = wr) (fun i _ => P - (intOf i).toNat)
  case atStart => exact ⟨2, by omega, by omega, rfl, Lib.hid (by
    unfold ldN
    by_cases h : P = 1
    · subst h; rfl
    · rw [show P - 2 + 1 = P - 1 by omega]), rfl⟩
  case round =>
    obtain ⟨d, hd2, hdP, rfl, HL, rfl⟩ := hrel
    by_cases hlt : d < P
    · have hd24 : d ≤ 24 := by omega
      have hdi : (d : Int) < (P : Int) := by omega
      have hd0 : ((d : Int) == 0) = false := by simp; omega
      by_cases hz : P % d = 0
      · have hL := HL.out
        rw [ldS_at hd2 hlt, if_pos hz] at hL
        have hm0 : (P : Int) % (d : Int) = 0 := by omega
        have ht0 : Int.tmod (P : Int) (d : Int) = 0 := by rw [Int.tmod_eq_emod_of_nonneg (by omega)]; exact hm0
        have HL2 := Lib.hid hL
        clear HL hL hz
        go_wp2
        go_ret
        exact ⟨by rw [HL2.out]; rfl, rfl⟩
      · have hL := HL.out
        rw [ldS_at hd2 hlt, if_neg hz] at hL
        have HL2 := Lib.hid hL
        have hm0 : ((P : Int) % (d : Int) == 0) = false := by
          have : (P : Int) % (d : Int) ≠ 0 := by omega
          simpa using this
        have ht0 : (Int.tmod (P : Int) (d : Int) == 0) = false := by rw [Int.tmod_eq_emod_of_nonneg (by omega)]; exact hm0
        clear HL hL hz
        go_wp2
        go_roundw
        case rel => exact ⟨d + 1, by omega, by omega, by go_num, HL2, by first | trivial | rfl⟩
        case measure => simp [intOf]; omega
    · have hL := HL.out
      rw [ldS_end hlt] at hL
      have HL2 := Lib.hid hL
      have hdi : ¬ (d : Int) < (P : Int) := by omega
      clear HL hL
      go_wp2
      go_ret
      exact ⟨by rw [HL2.out]; rfl, rfl⟩
end Go.Proofs.YtfkleihnafeoeaaGreatDoor

namespace Go.Proofs.YtfkleihnafeoeaaGreatDoor
open Go.RowKit
set_option maxRecDepth 1000000
set_option maxHeartbeats 4000000 in
theorem iPrg (w : World) (a : Option Addr) (l : List Int) (n cap : Nat) (x d m : Int) (hn : n = l.length) (hm : n ≤ 9223372036854775807) (hi : Ints w a l) :
    Calls Tryz.prog 22 #[.agg #[.slice a n cap], .int .i64 x, .int .i64 d, .int .i64 m] w fun e w' => e = .returned (.int .i64 (prgE l x d m)) ∧ Below w.heap.size w w' := by
  have HI := Lib.hid (ints_alloc hi (.cells #[.slice a n cap] 26))
  have HN := Lib.hid hn
  have C1 := newC w (.slice a n cap) 26 (n := w.heap.size) rfl
  have HB := Lib.hid (Joins.below_alloc1 w (.cells #[.slice a n cap] 26))
  have T0 := Lib.hid (Below.refl (w.alloc (.cells #[.slice a n cap] 26)).heap.size (w.alloc (.cells #[.slice a n cap] 26)))
  clear hi hn
  cases hx : isE l x with
  | false =>
    have HX := Lib.hid hx
    have hpv : prgE l x d m = -1 := by unfold prgE; rw [if_neg (by simp [hx])]
    obtain ⟨by', HD⟩ : ∃ b, Hid (isE l d = b) := ⟨_, Lib.hid rfl⟩
    clear hx
    rw [hpv]
    clear hpv
    go_enter Tryz.func22, Tryz.ntmps22
    go_wp2_with (first
      | (go_at_call 51; refine (iIn _ _ _ _ _ d HN.out hm (HI.out.below rfl T1b.out)).mono ?_; unfold InPost; rw [HD.out]; rintro e w2 ⟨p2, q2, r2, u2, v2, s2, rfl, hv2, hb2⟩; clear hv2; have T2 := Lib.hid (T1b.out.trans (hb2.mono T1b.out.size)); have T2a := Lib.hid (T2.out.alloc T2.out.size (.cells #[.int .i64 p2, .int .i64 q2, .int .i64 r2] 44)); have T2b := Lib.hid (T2a.out.alloc T2a.out.size (.cells #[.int .i64 u2, .int .i64 v2, .int .i64 s2] 44)); have N2 := Lib.hid (keepH (Joins.below_alloc1 _ (.cells #[.int .i64 u2, .int .i64 v2, .int .i64 s2] 44)) (by simp) (heap_alloc_new w2 (.cells #[.int .i64 p2, .int .i64 q2, .int .i64 r2] 44))); have M2 : Hid (((w2.alloc (.cells #[.int .i64 p2, .int .i64 q2, .int .i64 r2] 44)).alloc (.cells #[.int .i64 u2, .int .i64 v2, .int .i64 s2] 44)).heap[w2.heap.size + 1]? = some (.cells #[.int .i64 u2, .int .i64 v2, .int .i64 s2] 44 (0, 0))) := Lib.hid (by simpa using heap_alloc_new (w2.alloc (.cells #[.int .i64 p2, .int .i64 q2, .int .i64 r2] 44)) (.cells #[.int .i64 u2, .int .i64 v2, .int .i64 s2] 44)); have c2 := keepC T2.out (by simp <;> omega) C1; have c2b := keepC T2b.out (by simp <;> omega) C1)
      | (go_at_call 51; refine (iIn _ _ _ _ _ x HN.out hm (HI.out.below rfl T0.out)).mono ?_; unfold InPost; rw [HX.out]; rintro e w1 ⟨p, q, r, u, v, s, rfl, hv1, hb1⟩; clear hv1; have T1 := Lib.hid (T0.out.trans (hb1.mono T0.out.size)); have T1a := Lib.hid (T1.out.alloc T1.out.size (.cells #[.int .i64 p, .int .i64 q, .int .i64 r] 44)); have T1b := Lib.hid (T1a.out.alloc T1a.out.size (.cells #[.int .i64 u, .int .i64 v, .int .i64 s] 44)); have N1 := Lib.hid (keepH (Joins.below_alloc1 _ (.cells #[.int .i64 u, .int .i64 v, .int .i64 s] 44)) (by simp) (heap_alloc_new w1 (.cells #[.int .i64 p, .int .i64 q, .int .i64 r] 44))); have M1 : Hid (((w1.alloc (.cells #[.int .i64 p, .int .i64 q, .int .i64 r] 44)).alloc (.cells #[.int .i64 u, .int .i64 v, .int .i64 s] 44)).heap[w1.heap.size + 1]? = some (.cells #[.int .i64 u, .int .i64 v, .int .i64 s] 44 (0, 0))) := Lib.hid (by simpa using heap_alloc_new (w1.alloc (.cells #[.int .i64 p, .int .i64 q, .int .i64 r] 44)) (.cells #[.int .i64 u, .int .i64 v, .int .i64 s] 44)); have c1 := keepC T1.out (by simp <;> omega) C1; have c1b := keepC T1b.out (by simp <;> omega) C1))
    go_ret
    exact ⟨rfl, HB.out.trans (T2b.out.mono (by simp <;> omega))⟩
  | true =>
    have HX := Lib.hid hx
    cases hd : isE l d with
    | false =>
      have HD := Lib.hid hd
      have hpv : prgE l x d m = -1 := by unfold prgE; rw [if_neg (by simp [hd])]
      clear hx hd
      rw [hpv]
      clear hpv
      go_enter Tryz.func22, Tryz.ntmps22
      go_wp2_with (first
        | (go_at_call 51; refine (iIn _ _ _ _ _ d HN.out hm (HI.out.below rfl T1b.out)).mono ?_; unfold InPost; rw [HD.out]; rintro e w2 ⟨p2, q2, r2, u2, v2, s2, rfl, hv2, hb2⟩; clear hv2; have T2 := Lib.hid (T1b.out.trans (hb2.mono T1b.out.size)); have T2a := Lib.hid (T2.out.alloc T2.out.size (.cells #[.int .i64 p2, .int .i64 q2, .int .i64 r2] 44)); have T2b := Lib.hid (T2a.out.alloc T2a.out.size (.cells #[.int .i64 u2, .int .i64 v2, .int .i64 s2] 44)); have N2 := Lib.hid (keepH (Joins.below_alloc1 _ (.cells #[.int .i64 u2, .int .i64 v2, .int .i64 s2] 44)) (by simp) (heap_alloc_new w2 (.cells #[.int .i64 p2, .int .i64 q2, .int .i64 r2] 44))); have M2 : Hid (((w2.alloc (.cells #[.int .i64 p2, .int .i64 q2, .int .i64 r2] 44)).alloc (.cells #[.int .i64 u2, .int .i64 v2, .int .i64 s2] 44)).heap[w2.heap.size + 1]? = some (.cells #[.int .i64 u2, .int .i64 v2, .int .i64 s2] 44 (0, 0))) := Lib.hid (by simpa using heap_alloc_new (w2.alloc (.cells #[.int .i64 p2, .int .i64 q2, .int .i64 r2] 44)) (.cells #[.int .i64 u2, .int .i64 v2, .int .i64 s2] 44)); have c2 := keepC T2.out (by simp <;> omega) C1; have c2b := keepC T2b.out (by simp <;> omega) C1)
        | (go_at_call 51; refine (iIn _ _ _ _ _ x HN.out hm (HI.out.below rfl T0.out)).mono ?_; unfold InPost; rw [HX.out]; rintro e w1 ⟨p, q, r, u, v, s, rfl, hv1, hb1⟩; clear hv1; have T1 := Lib.hid (T0.out.trans (hb1.mono T0.out.size)); have T1a := Lib.hid (T1.out.alloc T1.out.size (.cells #[.int .i64 p, .int .i64 q, .int .i64 r] 44)); have T1b := Lib.hid (T1a.out.alloc T1a.out.size (.cells #[.int .i64 u, .int .i64 v, .int .i64 s] 44)); have N1 := Lib.hid (keepH (Joins.below_alloc1 _ (.cells #[.int .i64 u, .int .i64 v, .int .i64 s] 44)) (by simp) (heap_alloc_new w1 (.cells #[.int .i64 p, .int .i64 q, .int .i64 r] 44))); have M1 : Hid (((w1.alloc (.cells #[.int .i64 p, .int .i64 q, .int .i64 r] 44)).alloc (.cells #[.int .i64 u, .int .i64 v, .int .i64 s] 44)).heap[w1.heap.size + 1]? = some (.cells #[.int .i64 u, .int .i64 v, .int .i64 s] 44 (0, 0))) := Lib.hid (by simpa using heap_alloc_new (w1.alloc (.cells #[.int .i64 p, .int .i64 q, .int .i64 r] 44)) (.cells #[.int .i64 u, .int .i64 v, .int .i64 s] 44)); have c1 := keepC T1.out (by simp <;> omega) C1; have c1b := keepC T1b.out (by simp <;> omega) C1))
      go_ret
      exact ⟨rfl, HB.out.trans (T2b.out.mono (by simp <;> omega))⟩
    | true =>
      have HD := Lib.hid hd
      by_cases h0 : m < 0
      · have hpv : prgE l x d m = -1 := by unfold prgE; rw [if_neg (by simp; omega)]
        clear hx hd
        rw [hpv]
        clear hpv
        go_enter Tryz.func22, Tryz.ntmps22
        go_wp2_with (first
          | (go_at_call 51; refine (iIn _ _ _ _ _ d HN.out hm (HI.out.below rfl T1b.out)).mono ?_; unfold InPost; rw [HD.out]; rintro e w2 ⟨p2, q2, r2, u2, v2, s2, rfl, hv2, hb2⟩; clear hv2; have T2 := Lib.hid (T1b.out.trans (hb2.mono T1b.out.size)); have T2a := Lib.hid (T2.out.alloc T2.out.size (.cells #[.int .i64 p2, .int .i64 q2, .int .i64 r2] 44)); have T2b := Lib.hid (T2a.out.alloc T2a.out.size (.cells #[.int .i64 u2, .int .i64 v2, .int .i64 s2] 44)); have N2 := Lib.hid (keepH (Joins.below_alloc1 _ (.cells #[.int .i64 u2, .int .i64 v2, .int .i64 s2] 44)) (by simp) (heap_alloc_new w2 (.cells #[.int .i64 p2, .int .i64 q2, .int .i64 r2] 44))); have M2 : Hid (((w2.alloc (.cells #[.int .i64 p2, .int .i64 q2, .int .i64 r2] 44)).alloc (.cells #[.int .i64 u2, .int .i64 v2, .int .i64 s2] 44)).heap[w2.heap.size + 1]? = some (.cells #[.int .i64 u2, .int .i64 v2, .int .i64 s2] 44 (0, 0))) := Lib.hid (by simpa using heap_alloc_new (w2.alloc (.cells #[.int .i64 p2, .int .i64 q2, .int .i64 r2] 44)) (.cells #[.int .i64 u2, .int .i64 v2, .int .i64 s2] 44)); have c2 := keepC T2.out (by simp <;> omega) C1; have c2b := keepC T2b.out (by simp <;> omega) C1)
          | (go_at_call 51; refine (iIn _ _ _ _ _ x HN.out hm (HI.out.below rfl T0.out)).mono ?_; unfold InPost; rw [HX.out]; rintro e w1 ⟨p, q, r, u, v, s, rfl, hv1, hb1⟩; clear hv1; have T1 := Lib.hid (T0.out.trans (hb1.mono T0.out.size)); have T1a := Lib.hid (T1.out.alloc T1.out.size (.cells #[.int .i64 p, .int .i64 q, .int .i64 r] 44)); have T1b := Lib.hid (T1a.out.alloc T1a.out.size (.cells #[.int .i64 u, .int .i64 v, .int .i64 s] 44)); have N1 := Lib.hid (keepH (Joins.below_alloc1 _ (.cells #[.int .i64 u, .int .i64 v, .int .i64 s] 44)) (by simp) (heap_alloc_new w1 (.cells #[.int .i64 p, .int .i64 q, .int .i64 r] 44))); have M1 : Hid (((w1.alloc (.cells #[.int .i64 p, .int .i64 q, .int .i64 r] 44)).alloc (.cells #[.int .i64 u, .int .i64 v, .int .i64 s] 44)).heap[w1.heap.size + 1]? = some (.cells #[.int .i64 u, .int .i64 v, .int .i64 s] 44 (0, 0))) := Lib.hid (by simpa using heap_alloc_new (w1.alloc (.cells #[.int .i64 p, .int .i64 q, .int .i64 r] 44)) (.cells #[.int .i64 u, .int .i64 v, .int .i64 s] 44)); have c1 := keepC T1.out (by simp <;> omega) C1; have c1b := keepC T1b.out (by simp <;> omega) C1))
        go_ret
        exact ⟨rfl, HB.out.trans (T2b.out.mono (by simp <;> omega))⟩
      · by_cases h24 : 24 < m
        · have hpv : prgE l x d m = -1 := by unfold prgE; rw [if_neg (by simp; omega)]
          clear hx hd
          rw [hpv]
          clear hpv
          go_enter Tryz.func22, Tryz.ntmps22
          go_wp2_with (first
            | (go_at_call 51; refine (iIn _ _ _ _ _ d HN.out hm (HI.out.below rfl T1b.out)).mono ?_; unfold InPost; rw [HD.out]; rintro e w2 ⟨p2, q2, r2, u2, v2, s2, rfl, hv2, hb2⟩; clear hv2; have T2 := Lib.hid (T1b.out.trans (hb2.mono T1b.out.size)); have T2a := Lib.hid (T2.out.alloc T2.out.size (.cells #[.int .i64 p2, .int .i64 q2, .int .i64 r2] 44)); have T2b := Lib.hid (T2a.out.alloc T2a.out.size (.cells #[.int .i64 u2, .int .i64 v2, .int .i64 s2] 44)); have N2 := Lib.hid (keepH (Joins.below_alloc1 _ (.cells #[.int .i64 u2, .int .i64 v2, .int .i64 s2] 44)) (by simp) (heap_alloc_new w2 (.cells #[.int .i64 p2, .int .i64 q2, .int .i64 r2] 44))); have M2 : Hid (((w2.alloc (.cells #[.int .i64 p2, .int .i64 q2, .int .i64 r2] 44)).alloc (.cells #[.int .i64 u2, .int .i64 v2, .int .i64 s2] 44)).heap[w2.heap.size + 1]? = some (.cells #[.int .i64 u2, .int .i64 v2, .int .i64 s2] 44 (0, 0))) := Lib.hid (by simpa using heap_alloc_new (w2.alloc (.cells #[.int .i64 p2, .int .i64 q2, .int .i64 r2] 44)) (.cells #[.int .i64 u2, .int .i64 v2, .int .i64 s2] 44)); have c2 := keepC T2.out (by simp <;> omega) C1; have c2b := keepC T2b.out (by simp <;> omega) C1)
            | (go_at_call 51; refine (iIn _ _ _ _ _ x HN.out hm (HI.out.below rfl T0.out)).mono ?_; unfold InPost; rw [HX.out]; rintro e w1 ⟨p, q, r, u, v, s, rfl, hv1, hb1⟩; clear hv1; have T1 := Lib.hid (T0.out.trans (hb1.mono T0.out.size)); have T1a := Lib.hid (T1.out.alloc T1.out.size (.cells #[.int .i64 p, .int .i64 q, .int .i64 r] 44)); have T1b := Lib.hid (T1a.out.alloc T1a.out.size (.cells #[.int .i64 u, .int .i64 v, .int .i64 s] 44)); have N1 := Lib.hid (keepH (Joins.below_alloc1 _ (.cells #[.int .i64 u, .int .i64 v, .int .i64 s] 44)) (by simp) (heap_alloc_new w1 (.cells #[.int .i64 p, .int .i64 q, .int .i64 r] 44))); have M1 : Hid (((w1.alloc (.cells #[.int .i64 p, .int .i64 q, .int .i64 r] 44)).alloc (.cells #[.int .i64 u, .int .i64 v, .int .i64 s] 44)).heap[w1.heap.size + 1]? = some (.cells #[.int .i64 u, .int .i64 v, .int .i64 s] 44 (0, 0))) := Lib.hid (by simpa using heap_alloc_new (w1.alloc (.cells #[.int .i64 p, .int .i64 q, .int .i64 r] 44)) (.cells #[.int .i64 u, .int .i64 v, .int .i64 s] 44)); have c1 := keepC T1.out (by simp <;> omega) C1; have c1b := keepC T1b.out (by simp <;> omega) C1))
          go_ret
          exact ⟨rfl, HB.out.trans (T2b.out.mono (by simp <;> omega))⟩
        · obtain ⟨hg, hx0, hxp, hx23⟩ := isE_true hx
          obtain ⟨_, hd0, hdp, hd23⟩ := isE_true hd
          obtain ⟨x, rfl⟩ : ∃ X : Nat, x = (X : Int) := ⟨x.toNat, by omega⟩
          obtain ⟨d, rfl⟩ : ∃ X : Nat, d = (X : Int) := ⟨d.toNat, by omega⟩
          obtain ⟨m, rfl⟩ : ∃ X : Nat, m = (X : Int) := ⟨m.toNat, by omega⟩
          have hm24 : m ≤ 24 := by omega
          have hpv : prgE l (x : Int) (d : Int) (m : Int) = ((prgN l x d m : Nat) : Int) := by
            unfold prgE
            rw [if_pos (by rw [hx, hd]; simp; omega), Int.toNat_natCast, Int.toNat_natCast, Int.toNat_natCast]
          rw [hpv]
          have hP := (ords_grp hg).prod
          have hxN : x < (prodI l).toNat := by omega
          have hdN : d < (prodI l).toNat := by omega
          obtain ⟨_, h2, h3⟩ := run_el hg
          have HIX := Lib.hid (fun (W : World) (h : Ints W a l) => iIn_yes W a l n cap (x : Int) HN.out hm h hx)
          have HID := Lib.hid (fun (W : World) (h : Ints W a l) => iIn_yes W a l n cap (d : Int) HN.out hm h hd)
          rw [show (x : Int) % l.getD 0 1 = plU l x from rfl, show (x : Int) / l.getD 0 1 % l.getD 1 1 = plV l x from rfl, show (x : Int) / l.getD 0 1 / l.getD 1 1 % l.getD 2 1 = plS l x from rfl] at HIX
          rw [show (d : Int) % l.getD 0 1 = plU l d from rfl, show (d : Int) / l.getD 0 1 % l.getD 1 1 = plV l d from rfl, show (d : Int) / l.getD 0 1 / l.getD 1 1 % l.getD 2 1 = plS l d from rfl] at HID
          have HAD := Lib.hid (fun (W : World) (z : Nat) hz => h2 W z d hz hdN)
          have HEL := Lib.hid h3
          have HST := Lib.hid (fun k => stp_lt hg hxN (d := d) k)
          have HSS := Lib.hid (fun k => show adN l (stp (adN l) d x k) d = stp (adN l) d x (k + 1) from rfl)
          have HPN := Lib.hid (fun k => show prgN l x d k ||| 2 ^ stp (adN l) d x k = prgN l x d (k + 1) from rfl)
          have HPL := Lib.hid (fun k => grp_pow hg (prg_lt hg hxN (d := d) k))
          have HP0 : Hid (prgN l x d 0 = 0) := Lib.hid rfl
          obtain ⟨U, hU⟩ : ∃ U, plU l = U := ⟨_, rfl⟩
          obtain ⟨V, hV⟩ : ∃ U, plV l = U := ⟨_, rfl⟩
          obtain ⟨S, hS⟩ : ∃ U, plS l = U := ⟨_, rfl⟩
          rw [hU, hV, hS] at HIX HID HAD HEL
          obtain ⟨p, EP⟩ : ∃ p, Hid (l.getD 0 1 = p) := ⟨_, Lib.hid rfl⟩
          obtain ⟨q, EQ⟩ : ∃ q, Hid (l.getD 1 1 = q) := ⟨_, Lib.hid rfl⟩
          obtain ⟨r, ER⟩ : ∃ r, Hid (l.getD 2 1 = r) := ⟨_, Lib.hid rfl⟩
          rw [EP.out, EQ.out, ER.out] at HIX HID HAD HEL
          obtain ⟨N, hN0⟩ : ∃ N, (prodI l).toNat = N := ⟨_, rfl⟩
          rw [hN0] at HEL HAD HST
          have hN24 : N ≤ 24 := by omega
          clear hx hd hg hx0 hxp hx23 hd0 hdp hd23 hpv hP hxN hdN h2 h3 hU hV hS hN0 HX HD
          go_enter Tryz.func22, Tryz.ntmps22
          go_wp2_with (first
            | (go_at_call 51; refine (HID.out _ (HI.out.below rfl T1b.out)).mono ?_; rintro e w2 ⟨rfl, hb2⟩; have T2 := Lib.hid (T1b.out.trans (hb2.mono T1b.out.size)); have T2a := Lib.hid (T2.out.alloc T2.out.size (.cells #[.int .i64 p, .int .i64 q, .int .i64 r] 44)); have T2b := Lib.hid (T2a.out.alloc T2a.out.size (.cells #[.int .i64 (U d), .int .i64 (V d), .int .i64 (S d)] 44)); have K1 := Lib.hid ((hb2.alloc hb2.size (.cells #[.int .i64 p, .int .i64 q, .int .i64 r] 44)).alloc (Nat.le_trans hb2.size (by simp)) (.cells #[.int .i64 (U d), .int .i64 (V d), .int .i64 (S d)] 44)); have M2 : Hid (((w2.alloc (.cells #[.int .i64 p, .int .i64 q, .int .i64 r] 44)).alloc (.cells #[.int .i64 (U d), .int .i64 (V d), .int .i64 (S d)] 44)).heap[w2.heap.size + 1]? = some (.cells #[.int .i64 (U d), .int .i64 (V d), .int .i64 (S d)] 44 (0, 0))) := Lib.hid (by simpa using heap_alloc_new (w2.alloc (.cells #[.int .i64 p, .int .i64 q, .int .i64 r] 44)) (.cells #[.int .i64 (U d), .int .i64 (V d), .int .i64 (S d)] 44)); have hz2 := hb2.size)
            | (go_at_call 51; refine (HIX.out _ (HI.out.below rfl T0.out)).mono ?_; rintro e w1 ⟨rfl, hb1⟩; have T1 := Lib.hid (T0.out.trans (hb1.mono T0.out.size)); have T1a := Lib.hid (T1.out.alloc T1.out.size (.cells #[.int .i64 p, .int .i64 q, .int .i64 r] 44)); have T1b := Lib.hid (T1a.out.alloc T1a.out.size (.cells #[.int .i64 (U x), .int .i64 (V x), .int .i64 (S x)] 44)); have N1 := Lib.hid (keepH (Joins.below_alloc1 _ (.cells #[.int .i64 (U x), .int .i64 (V x), .int .i64 (S x)] 44)) (by simp) (heap_alloc_new w1 (.cells #[.int .i64 p, .int .i64 q, .int .i64 r] 44))); have M1 : Hid (((w1.alloc (.cells #[.int .i64 p, .int .i64 q, .int .i64 r] 44)).alloc (.cells #[.int .i64 (U x), .int .i64 (V x), .int .i64 (S x)] 44)).heap[w1.heap.size + 1]? = some (.cells #[.int .i64 (U x), .int .i64 (V x), .int .i64 (S x)] 44 (0, 0))) := Lib.hid (by simpa using heap_alloc_new (w1.alloc (.cells #[.int .i64 p, .int .i64 q, .int .i64 r] 44)) (.cells #[.int .i64 (U x), .int .i64 (V x), .int .i64 (S x)] 44)); have c1b := keepC T1b.out (by simp <;> omega) C1; have hz1 := hb1.size))
          have hs1 : w.heap.size < w1.heap.size := by simp at hz1; omega
          have hs2 : w1.heap.size + 2 ≤ w2.heap.size := by simp at hz2; omega
          clear hz1 hz2
          have Q1 := Lib.hid (keepH K1.out (by simp <;> omega) N1.out)
          have Q2 := Lib.hid (keepH K1.out (by simp <;> omega) M1.out)
          have HB2 := Lib.hid (HB.out.trans (T2b.out.mono (by simp)))
          clear N1 M1 K1 T2b T2a T2 T1b T1a T1 hb1 hb2
          go_loopw [15, 45] (fun sv iv wr => ∃ k : Nat, k ≤ m ∧ iv = .int .i64 k ∧ sv = .int .u64 (prgN l x d k : Nat) ∧ Hid (Below w.heap.size w wr) ∧ Hid (wr.heap[w1.heap.size]? = some (.cells #[.int .i64 p, .int .i64 q, .int .i64 r] 44 (0, 0))) ∧ Hid (wr.heap[w1.heap.size + 1]? = some (.cells #[.int .i64 (U (stp (adN l) d x k)), .int .i64 (V (stp (adN l) d x k)), .int .i64 (S (stp (adN l) d x k))] 44 (0, 0))) ∧ Hid (wr.heap[w2.heap.size + 1]? = some (.cells #[.int .i64 (U d), .int .i64 (V d), .int .i64 (S d)] 44 (0, 0)))) (fun _ iv _ => m - (intOf iv).toNat)
          case atStart => exact ⟨0, Nat.zero_le _, rfl, by rw [HP0.out]; rfl, HB2, Q1, Q2, M2⟩
          case round =>
            obtain ⟨k, hk, rfl, rfl, HBW, HGW, H9W, H10W⟩ := hrel
            have hS24 : prgN l x d k < 16777216 := HPL.out k
            by_cases hlt : k < m
            · have hX := HST.out k
              have hX1 := HST.out (k + 1)
              have HA1 := Lib.hid (fun (W : World) => HAD.out W (stp (adN l) d x k) hX)
              have HE1 := Lib.hid (fun (W : World) => HEL.out W (stp (adN l) d x k) hX)
              have HN2 := Lib.hid (HPN.out k)
              rw [HSS.out k] at HA1
              obtain ⟨X, hXX⟩ : ∃ X, Hid (stp (adN l) d x k = X) := ⟨_, Lib.hid rfl⟩
              obtain ⟨Y, hYY⟩ : ∃ Y, Hid (stp (adN l) d x (k + 1) = Y) := ⟨_, Lib.hid rfl⟩
              obtain ⟨Q, hQQ⟩ : ∃ Q, Hid (prgN l x d k = Q) := ⟨_, Lib.hid rfl⟩
              rw [hXX.out] at hX H9W HA1 HE1 HN2
              rw [hYY.out] at hX1 HA1
              rw [hQQ.out] at hS24 HN2
              rw [hQQ.out]
              have hX23 : X ≤ 23 := by omega
              have HW := Lib.hid (fun (W : World) => iWith W Q X hS24 hX23)
              rw [HN2.out] at HW
              obtain ⟨c0, c1, c2, _, _, _⟩ := trip_cell HGW.out
              obtain ⟨a0, a1, a2, f0, f1, f2⟩ := trip_cell H9W.out
              obtain ⟨d0, d1, d2, _, _, _⟩ := trip_cell H10W.out
              have hki : (k : Int) < (m : Int) := by omega
              clear hS24 hX hX1 C1 c1b
              go_wp2_with (first
                | (go_at_call 54; refine (HA1.out _).mono ?_; rintro e w4 ⟨rfl, hb4⟩; have G4 := Lib.hid (keepH hb4 (Array.getElem?_eq_some_iff.1 G3.out).1 G3.out); have P4 := Lib.hid (keepH hb4 (Array.getElem?_eq_some_iff.1 P3.out).1 P3.out); have D4 := Lib.hid (keepH hb4 (Array.getElem?_eq_some_iff.1 D3.out).1 D3.out); have B4 := Lib.hid (below_set3 (x := .int .i64 (U Y)) (y := .int .i64 (V Y)) (z := .int .i64 (S Y)) (B3.out.trans (hb4.mono B3.out.size)) (b := w1.heap.size + 1) (by omega)); have PS := Lib.hid (set3_heapV (u := .int .i64 (U Y)) (v := .int .i64 (V Y)) (s := .int .i64 (S Y)) P4.out); have GS := Lib.hid (set3_other (b := w1.heap.size + 1) (u := .int .i64 (U Y)) (v := .int .i64 (V Y)) (s := .int .i64 (S Y)) G4.out (by omega)); have DS := Lib.hid (set3_other (b := w1.heap.size + 1) (u := .int .i64 (U Y)) (v := .int .i64 (V Y)) (s := .int .i64 (S Y)) D4.out (by omega)); obtain ⟨a10, a11, a12, f10, f11, f12⟩ := trip_cell P4.out)
                | (go_at_call 52; refine (HW.out _).mono ?_; rintro e w5 ⟨rfl, rfl⟩)
                | (go_at_call 53; refine (HE1.out _).mono ?_; rintro e w3 ⟨rfl, hb3⟩; have B3 := Lib.hid (HBW.out.trans (hb3.mono HBW.out.size)); have G3 := Lib.hid (keepH hb3 (Array.getElem?_eq_some_iff.1 HGW.out).1 HGW.out); have P3 := Lib.hid (keepH hb3 (Array.getElem?_eq_some_iff.1 H9W.out).1 H9W.out); have D3 := Lib.hid (keepH hb3 (Array.getElem?_eq_some_iff.1 H10W.out).1 H10W.out); obtain ⟨c30, c31, c32, _, _, _⟩ := trip_cell G3.out; obtain ⟨a30, a31, a32, _, _, _⟩ := trip_cell P3.out; obtain ⟨d30, d31, d32, _, _, _⟩ := trip_cell D3.out))
              go_roundw
              case rel => exact ⟨k + 1, by omega, by go_num, rfl, B4, GS, by rw [hYY.out]; exact PS, DS⟩
              case measure => simp [intOf]; omega
            · obtain rfl : k = m := by omega
              have hki : ¬ (k : Int) < (k : Int) := by omega
              obtain ⟨Q, hQQ⟩ : ∃ Q, prgN l x d k = Q := ⟨_, rfl⟩
              rw [hQQ] at hS24
              rw [hQQ]
              have HQQ := Lib.hid hQQ
              have hwr : IntKind.i64.wrap ((Q : Nat) : Int) = (Q : Int) := by rw [IntKind.wrap_i64]; omega
              clear hQQ
              go_wp2
              go_ret
              exact ⟨by rw [HQQ.out]; rfl, HBW.out⟩
set_option maxHeartbeats 2000000 in
theorem iPrm (w : World) (a : Option Addr) (l : List Int) (n cap : Nat) (hn : n = l.length) (hm : n ≤ 9223372036854775807) (hi : Ints w a l) :
    Calls Tryz.prog 25 #[.agg #[.slice a n cap]] w fun e w' => e = .returned (.bool (prmB l)) ∧ Below w.heap.size w w' := by
  have HI := Lib.hid (ints_alloc hi (.cells #[.slice a n cap] 26))
  have HN := Lib.hid hn
  have C1 := newC w (.slice a n cap) 26 (n := w.heap.size) rfl
  have HB := Lib.hid (Joins.below_alloc1 w (.cells #[.slice a n cap] 26))
  have T0 := Lib.hid (Below.refl (w.alloc (.cells #[.slice a n cap] 26)).heap.size (w.alloc (.cells #[.slice a n cap] 26)))
  clear hi hn
  cases hg : grpB l with
  | false =>
    have HO : Hid (ordN l = 0) := Lib.hid (by unfold ordN; rw [hg]; rfl)
    rw [show prmB l = false by unfold prmB; rw [hg]; rfl]
    clear hg
    go_enter Tryz.func25, Tryz.ntmps25
    go_wp2_with (go_at_call 57; refine (iOrderOf _ _ _ _ _ HN.out hm (HI.out.below rfl T0.out)).mono ?_; rw [HO.out]; rintro e w1 ⟨rfl, hb1⟩; have T1 := Lib.hid (HB.out.trans (hb1.mono (by simp))))
    go_ret
    exact ⟨rfl, T1.out⟩
  | true =>
    have hp := (ords_grp hg).prod
    rw [prm_ld hg]
    obtain ⟨N, hNN⟩ : ∃ N : Nat, (prodI l).toNat = N := ⟨_, rfl⟩
    have HO : Hid (ordN l = (N : Int)) := Lib.hid (by rw [ordN_grp hg]; omega)
    rw [hNN]
    have hN1 : 1 ≤ N := by omega
    have hN24 : N ≤ 24 := by omega
    have HLD := Lib.hid (fun (W : World) => iLd W N hN1 hN24)
    obtain ⟨L, hL⟩ : ∃ L, ldN N = L := ⟨_, rfl⟩
    rw [hL] at HLD ⊢
    clear hg hNN hL hp
    by_cases h : 1 < N
    · have hd : (1 : Int) < (N : Int) := by omega
      rw [decide_eq_true h, Bool.true_and]
      go_enter Tryz.func25, Tryz.ntmps25
      go_wp2_with (first
        | (go_at_call 58; refine (HLD.out _).mono ?_; rintro e w2 ⟨rfl, rfl⟩)
        | (go_at_call 57; refine (iOrderOf _ _ _ _ _ HN.out hm (HI.out.below rfl T0.out)).mono ?_; rw [HO.out]; rintro e w1 ⟨rfl, hb1⟩; have T1 := Lib.hid (HB.out.trans (hb1.mono (by simp)))))
      go_ret
      exact ⟨rfl, T1.out⟩
    · have hd : ¬ (1 : Int) < (N : Int) := by omega
      rw [decide_eq_false h, Bool.false_and]
      go_enter Tryz.func25, Tryz.ntmps25
      go_wp2_with (go_at_call 57; refine (iOrderOf _ _ _ _ _ HN.out hm (HI.out.below rfl T0.out)).mono ?_; rw [HO.out]; rintro e w1 ⟨rfl, hb1⟩; have T1 := Lib.hid (HB.out.trans (hb1.mono (by simp))))
      go_ret
      exact ⟨rfl, T1.out⟩
end Go.Proofs.YtfkleihnafeoeaaGreatDoor

namespace Go.Proofs.YtfkleihnafeoeaaGreatDoor
open Go.RowKit Go.Extern.Stop Go.Stop Go.Extern
set_option maxRecDepth 1000000
/-- How many package-level variables the program has: a type's handle points behind them. -/
noncomputable def gN : Nat := Tryz.prog.globals.size
/-- The library's variable errorType holds its handle, below block B. -/
def ErrB (B : Nat) (w : World) : Prop := 0 < B ∧ w.cell? ⟨0, 0, none⟩ = some (.iface 114 (.agg #[.pointer (some ⟨gN, 48, none⟩)]))
theorem ErrB.on {B : Nat} {w w1 : World} (h : ErrB B w) (hb : Below B w w1) : ErrB B w1 := ⟨h.1, keepC hb h.1 h.2⟩
theorem er_nil (t : Value) (w : World) : Calls Tryz.prog 62 #[.nilIface, t] w fun e w' => e = .returned (.bool false) ∧ w = w' := by
  go_enter Tryz.func62, Tryz.ntmps62
  go_wp2
  go_ret
  exact ⟨rfl, rfl⟩
theorem er_vP (t : Addr) (w : World) : (ReflectliteValue.unpack (.iface 79 (.pointer (some t)))).run Tryz.prog w
    = .ok (.agg #[.pointer (some ⟨gN, 79, none⟩), .pointer (some ⟨w.heap.size, 0, none⟩), .int .u64 150]) (w.alloc (.cells #[.pointer (some t)] 79)) := by kernel_rfl
theorem er_tP (a : Addr) (w : World) : (ReflectliteValue.methodAny (ReflectliteValue.valueError "reflectlite.Value.Type" 0) (fun t _ _ _ => ReflectliteType.toType t) #[.agg #[.pointer (some ⟨gN, 79, none⟩), .pointer (some a), .int .u64 150]]).run Tryz.prog w
    = .ok (.iface 114 (.agg #[.pointer (some ⟨gN, 79, none⟩)])) w := by kernel_rfl
theorem er_kP (w : World) : ((ReflectliteType.abiMethod fun t => (fun a : Nat => Value.int IntKind.u8 (a : Int)) <$> Rtype.kind t) #[.pointer (some ⟨gN, 79, none⟩)]).run Tryz.prog w = .ok (.int .u8 22) w := by kernel_rfl
theorem er_kS (w : World) : ((ReflectliteType.abiMethod fun t => (fun a : Nat => Value.int IntKind.u8 (a : Int)) <$> Rtype.kind t) #[.pointer (some ⟨gN, 77, none⟩)]).run Tryz.prog w = .ok (.int .u8 25) w := by kernel_rfl
/-- An entry that first asks for the parts of a Value. -/
theorem er_one {S : Sem Value} {v : Value} {T : TypeId} {a : Addr} {fl : Nat} {W : World} {R : Result Value} (g : Option (TypeId × Addr × Nat) → Sem Value) (h : S = ReflectliteValue.parts v >>= g)
    (hp : (ReflectliteValue.parts v).run Tryz.prog W = .ok (some (T, a, fl)) W) (hr : (g (some (T, a, fl))).run Tryz.prog W = R) : S.run Tryz.prog W = R := by
  rw [h]
  simp only [Sem.run_bind, hp, Result.andThen]
  exact hr
/-- An entry that first asks for the parts of two Values. -/
theorem er_two {S : Sem Value} {v x : Value} {T U : TypeId} {a b : Addr} {fl fk : Nat} {W : World} {R : Result Value} (g : Option (TypeId × Addr × Nat) → Option (TypeId × Addr × Nat) → Sem Value)
    (h : S = ReflectliteValue.parts v >>= fun y => ReflectliteValue.parts x >>= fun z => g y z)
    (hp : (ReflectliteValue.parts v).run Tryz.prog W = .ok (some (T, a, fl)) W) (hq : (ReflectliteValue.parts x).run Tryz.prog W = .ok (some (U, b, fk)) W)
    (hr : (g (some (T, a, fl)) (some (U, b, fk))).run Tryz.prog W = R) : S.run Tryz.prog W = R := by
  rw [h]
  simp only [Sem.run_bind, hp, hq, Result.andThen]
  exact hr
theorem er_pP (a : Addr) (w : World) : (ReflectliteValue.parts (.agg #[.pointer (some ⟨gN, 79, none⟩), .pointer (some a), .int .u64 150])).run Tryz.prog w = .ok (some (79, a, 150)) w := by kernel_rfl
theorem er_nP (a p : Addr) (W : World) (ha : W.cell? a = some (.pointer (some p))) :
    (ReflectliteValue.method (ReflectliteValue.valueError "reflectlite.Value.IsNil" 0) ReflectliteValue.isNil #[.agg #[.pointer (some ⟨gN, 79, none⟩), .pointer (some a), .int .u64 150]]).run Tryz.prog W = .ok (.bool false) W := by
  refine er_one _ rfl (er_pP a W) ?_
  simp [ReflectliteValue.isNil, loadVar, isAgg, underlying, Tryz.underlying79, ha, Result.andThen]
theorem er_eP (w : World) : (ReflectliteType.method ReflectliteType.elem #[.agg #[.pointer (some ⟨gN, 79, none⟩)]]).run Tryz.prog w = .ok (.iface 114 (.agg #[.pointer (some ⟨gN, 77, none⟩)])) w := by kernel_rfl
theorem er_iS (w : World) : (ReflectliteType.relation "Implements" ReflectliteType.implements_ #[.agg #[.pointer (some ⟨gN, 77, none⟩)], .iface 114 (.agg #[.pointer (some ⟨gN, 48, none⟩)])]).run Tryz.prog w = .ok (.bool true) w := by kernel_rfl
theorem er_tS (v : Value) (w : World) : (ReflectliteType.typeOf #[.iface 77 v]).run Tryz.prog w = .ok (.iface 114 (.agg #[.pointer (some ⟨gN, 77, none⟩)])) w := by kernel_rfl
theorem er_aS (w : World) : (ReflectliteType.relation "AssignableTo" ReflectliteType.assignableTo #[.agg #[.pointer (some ⟨gN, 77, none⟩)], .iface 114 (.agg #[.pointer (some ⟨gN, 77, none⟩)])]).run Tryz.prog w = .ok (.bool true) w := by kernel_rfl
theorem er_vS (x y : Value) (w : World) : (ReflectliteValue.unpack (.iface 77 (.agg #[x, y]))).run Tryz.prog w
    = .ok (.agg #[.pointer (some ⟨gN, 77, none⟩), .pointer (some ⟨w.heap.size, 0, none⟩), .int .u64 153]) (w.alloc (.cells #[x, y] 77)) := by kernel_rfl
theorem er_oP (w : World) : (Rtype.elem? 79).run Tryz.prog w = .ok (some 77) w := by kernel_rfl
theorem er_mS (p : Addr) (w : World) : (ReflectliteValue.mk 77 p ReflectliteValue.flagAddr).run Tryz.prog w = .ok (.agg #[.pointer (some ⟨gN, 77, none⟩), .pointer (some p), .int .u64 409]) w := by kernel_rfl
theorem er_lP (a p : Addr) (W : World) (ha : W.cell? a = some (.pointer (some p))) :
    (ReflectliteValue.method (ReflectliteValue.valueError "reflectlite.Value.Elem" 0) ReflectliteValue.elem #[.agg #[.pointer (some ⟨gN, 79, none⟩), .pointer (some a), .int .u64 150]]).run Tryz.prog W
      = .ok (.agg #[.pointer (some ⟨gN, 77, none⟩), .pointer (some p), .int .u64 409]) W := by
  refine er_one _ rfl (er_pP a W) ?_
  simp [ReflectliteValue.elem, loadVar, isAgg, underlying, Tryz.underlying79, ha, Result.andThen, er_oP, er_mS]
theorem er_pSa (a : Addr) (w : World) : (ReflectliteValue.parts (.agg #[.pointer (some ⟨gN, 77, none⟩), .pointer (some a), .int .u64 409])).run Tryz.prog w = .ok (some (77, a, 409)) w := by kernel_rfl
theorem er_pS (a : Addr) (w : World) : (ReflectliteValue.parts (.agg #[.pointer (some ⟨gN, 77, none⟩), .pointer (some a), .int .u64 153])).run Tryz.prog w = .ok (some (77, a, 153)) w := by kernel_rfl
theorem er_dS (w : World) : (Rtype.directlyAssignable 77 77).run Tryz.prog w = .ok true w := by kernel_rfl
theorem er_gS (w : World) : (isAgg 77).run Tryz.prog w = .ok true w := by kernel_rfl
theorem er_zS (w : World) : (sizeOf 77).run Tryz.prog w = .ok 2 w := by kernel_rfl
theorem er_info : ∃ i, Tryz.prog.info? 77 = some i ∧ i.size = 2 := by
  have h : (Tryz.prog.info? 77).isSome = true := by kernel_rfl
  obtain ⟨i, hi⟩ := Option.isSome_iff_exists.1 h
  have h2 : (Tryz.prog.info? 77).map (·.size) = some 2 := by kernel_rfl
  rw [hi] at h2
  exact ⟨i, hi, by simpa using h2⟩
/-- The target's two cells get those of the error. -/
theorem er_sS (tb b : Nat) (x y : ByteArray) (W : World) (hx : W.cell? ⟨b, 0, none⟩ = some (.string x)) (hy : W.cell? ⟨b, 1, none⟩ = some (.string y))
    (h0 : (W.cell? ⟨tb, 0, none⟩).isSome = true) (h1 : (W.cell? ⟨tb, 1, none⟩).isSome = true) (f0 : W.frozen? ⟨tb, 0, none⟩ = false) (f1 : W.frozen? ⟨tb, 1, none⟩ = false) :
    (ReflectliteValue.set #[.agg #[.pointer (some ⟨gN, 77, none⟩), .pointer (some ⟨tb, 0, none⟩), .int .u64 409], .agg #[.pointer (some ⟨gN, 77, none⟩), .pointer (some ⟨b, 0, none⟩), .int .u64 153]]).run Tryz.prog W
      = .ok (.tuple #[]) ((W.setCell ⟨tb, 0, none⟩ (.string x)).setCell ⟨tb, 1, none⟩ (.string y)) := by
  obtain ⟨i, hi, hs⟩ := er_info
  have hl := Lib.rl_loadVar_cells (P := Tryz.prog) 77 i hi er_gS b 0 [.string x, .string y] (by rw [hs]; rfl) W (fun k v h => by
    rcases k with _ | _ | k
    · simp at h; subst h; simpa using hx
    · simp at h; subst h; simpa using hy
    · simp at h)
  have hst := Lib.rl_storeVar_cells (P := Tryz.prog) 77 i hi tb 0 [.string x, .string y] (by rw [hs]; rfl) (fun v h => by simp at h; rcases h with rfl | rfl <;> rfl) W (fun k hk => by
    rcases k with _ | _ | k
    · simpa using h0
    · simpa using h1
    · simp only [List.length_cons, List.length_nil] at hk; omega) (fun k hk => by
    rcases k with _ | _ | k
    · simpa using f0
    · simpa using f1
    · simp only [List.length_cons, List.length_nil] at hk; omega)
  refine er_two _ rfl (er_pSa _ W) (er_pS _ W) ?_
  simp [ReflectliteValue.flagAddr, Result.andThen, er_dS]
  rw [show (Value.agg [Value.string x, Value.string y].toArray) = .agg #[.string x, .string y] from rfl] at hl hst
  simp [hl, hst, World.setCells]
theorem er_mK (n : Nat) (h : Value) (w : World) : (Go.method (n + 1) 114 (.agg #[h]) "Kind").run Tryz.prog w = .ok (106, h) w := by kernel_rfl
theorem er_mE (n : Nat) (h : Value) (w : World) : (Go.method (n + 1) 114 (.agg #[h]) "Elem").run Tryz.prog w = .ok (117, .agg #[h]) w := by kernel_rfl
theorem er_mI (n : Nat) (h : Value) (w : World) : (Go.method (n + 1) 114 (.agg #[h]) "Implements").run Tryz.prog w = .ok (118, .agg #[h]) w := by kernel_rfl
theorem er_mA (n : Nat) (h : Value) (w : World) : (Go.method (n + 1) 114 (.agg #[h]) "AssignableTo").run Tryz.prog w = .ok (115, .agg #[h]) w := by kernel_rfl
theorem duo_cell {w : World} {B : Nat} {x y : Value} {T : TypeId} (h : w.heap[B]? = some (.cells #[x, y] T (0, 0))) :
    w.cell? ⟨B, 0, none⟩ = some x ∧ w.cell? ⟨B, 1, none⟩ = some y ∧ w.frozen? ⟨B, 0, none⟩ = false ∧ w.frozen? ⟨B, 1, none⟩ = false :=
  ⟨by simp [World.cell?, h], by simp [World.cell?, h], by simp [World.frozen?, h], by simp [World.frozen?, h]⟩
set_option maxHeartbeats 4000000 in
theorem er_as (w : World) (x y x0 y0 : ByteArray) (tb : Nat) (hg : w.cell? ⟨0, 0, none⟩ = some (.iface 114 (.agg #[.pointer (some ⟨gN, 48, none⟩)]))) (ht0 : w.heap[tb]? = some (.cells #[.string x0, .string y0] 77 (0, 0))) :
    Calls Tryz.prog 62 #[.iface 77 (.agg #[.string x, .string y]), .iface 79 (.pointer (some ⟨tb, 0, none⟩))] w fun e w' => e = .returned (.bool true) ∧ Below tb w w' := by
  have h6 := @run_callFunc_extern Tryz.prog 80 _ (fun args => ReflectliteValue.unpack (args.getD 0 (.tuple #[]))) Tryz.func80 (by kernel_rfl) (by kernel_rfl) (by kernel_rfl) (by kernel_rfl)
  have h7 := @run_callFunc_extern Tryz.prog 81 _ (ReflectliteValue.methodAny (ReflectliteValue.valueError "reflectlite.Value.Type" 0) (fun t _ _ _ => ReflectliteType.toType t)) Tryz.func81 (by kernel_rfl) (by kernel_rfl) (by kernel_rfl) (by kernel_rfl)
  have h8 := @run_callFunc_extern Tryz.prog 82 _ (ReflectliteValue.method (ReflectliteValue.valueError "reflectlite.Value.IsNil" 0) ReflectliteValue.isNil) Tryz.func82 (by kernel_rfl) (by kernel_rfl) (by kernel_rfl) (by kernel_rfl)
  have h27 := @run_callFunc_extern Tryz.prog 106 _ (ReflectliteType.abiMethod fun t => do pure (.int .u8 (← Rtype.kind t))) Tryz.func106 (by kernel_rfl) (by kernel_rfl) (by kernel_rfl) (by kernel_rfl)
  have h37 := @run_callFunc_extern Tryz.prog 117 _ (ReflectliteType.method ReflectliteType.elem) Tryz.func117 (by kernel_rfl) (by kernel_rfl) (by kernel_rfl) (by kernel_rfl)
  have h38 := @run_callFunc_extern Tryz.prog 118 _ (ReflectliteType.relation "Implements" ReflectliteType.implements_) Tryz.func118 (by kernel_rfl) (by kernel_rfl) (by kernel_rfl) (by kernel_rfl)
  have h10 := @run_callFunc_extern Tryz.prog 89 _ ReflectliteType.typeOf Tryz.func89 (by kernel_rfl) (by kernel_rfl) (by kernel_rfl) (by kernel_rfl)
  have h35 := @run_callFunc_extern Tryz.prog 115 _ (ReflectliteType.relation "AssignableTo" ReflectliteType.assignableTo) Tryz.func115 (by kernel_rfl) (by kernel_rfl) (by kernel_rfl) (by kernel_rfl)
  have h11 := @run_callFunc_extern Tryz.prog 90 _ (ReflectliteValue.method (ReflectliteValue.valueError "reflectlite.Value.Elem" 0) ReflectliteValue.elem) Tryz.func90 (by kernel_rfl) (by kernel_rfl) (by kernel_rfl) (by kernel_rfl)
  have h12 := @run_callFunc_extern Tryz.prog 91 _ ReflectliteValue.set Tryz.func91 (by kernel_rfl) (by kernel_rfl) (by kernel_rfl) (by kernel_rfl)
  have tO := er_tS
  have mA := er_mA
  have a25 := er_aS
  have v25 := er_vS
  have f6 := er_vP
  have f7 := er_tP
  have mK := er_mK
  have mE := er_mE
  have mI := er_mI
  have k27 := er_kP
  have k25 := er_kS
  have e27 := er_eP
  have i25 := er_iS
  have htl : tb < w.heap.size := by
    rcases Nat.lt_or_ge tb w.heap.size with h | h
    · exact h
    · simp [Array.getElem?_eq_none h] at ht0
  have hlt : 0 < w.heap.size := World.block_lt_of_cell? w _ hg
  have n8 := er_nP ⟨w.heap.size, 0, none⟩ ⟨tb, 0, none⟩ ((w.alloc (.cells #[.pointer (some ⟨tb, 0, none⟩)] 79)).alloc (.cells #[.pointer (some ⟨gN, 79, none⟩), .pointer (some ⟨w.heap.size, 0, none⟩), .int .u64 150] 97)) (by simp)
  have hg2 : ((w.alloc (.cells #[.pointer (some ⟨tb, 0, none⟩)] 79)).alloc (.cells #[.pointer (some ⟨gN, 79, none⟩), .pointer (some ⟨w.heap.size, 0, none⟩), .int .u64 150] 97)).cell? ⟨0, 0, none⟩ = some (.iface 114 (.agg #[.pointer (some ⟨gN, 48, none⟩)])) := by
    rw [World.cell?_alloc_lt _ _ ⟨0, 0, none⟩ (by simp), World.cell?_alloc_lt _ _ ⟨0, 0, none⟩ hlt]; exact hg
  have el := er_lP ⟨w.heap.size, 0, none⟩ ⟨tb, 0, none⟩ (((w.alloc (.cells #[.pointer (some ⟨tb, 0, none⟩)] 79)).alloc (.cells #[.pointer (some ⟨gN, 79, none⟩), .pointer (some ⟨w.heap.size, 0, none⟩), .int .u64 150] 97)).alloc (.cells #[.pointer (some ⟨gN, 79, none⟩), .pointer (some ⟨w.heap.size, 0, none⟩), .int .u64 150] 97)) (by rw [World.cell?_alloc_lt _ _ ⟨w.heap.size, 0, none⟩ (by simp; omega)]; simp)
  have hB4 : Below w.heap.size w ((((w.alloc (.cells #[.pointer (some ⟨tb, 0, none⟩)] 79)).alloc (.cells #[.pointer (some ⟨gN, 79, none⟩), .pointer (some ⟨w.heap.size, 0, none⟩), .int .u64 150] 97)).alloc (.cells #[.pointer (some ⟨gN, 79, none⟩), .pointer (some ⟨w.heap.size, 0, none⟩), .int .u64 150] 97)).alloc (.cells #[.string x, .string y] 77)) := Below.alloc (Below.alloc (Below.alloc (Joins.below_alloc1 w _) (by simp) _) (by simp; omega) _) (by simp; omega) _
  have R4 := keepH hB4 htl ht0
  have C4 : ((((w.alloc (.cells #[.pointer (some ⟨tb, 0, none⟩)] 79)).alloc (.cells #[.pointer (some ⟨gN, 79, none⟩), .pointer (some ⟨w.heap.size, 0, none⟩), .int .u64 150] 97)).alloc (.cells #[.pointer (some ⟨gN, 79, none⟩), .pointer (some ⟨w.heap.size, 0, none⟩), .int .u64 150] 97)).alloc (.cells #[.string x, .string y] 77)).heap[w.heap.size + 1 + 1 + 1]? = some (.cells #[.string x, .string y] 77 (0, 0)) := by simpa using heap_alloc_new (((w.alloc (.cells #[.pointer (some ⟨tb, 0, none⟩)] 79)).alloc (.cells #[.pointer (some ⟨gN, 79, none⟩), .pointer (some ⟨w.heap.size, 0, none⟩), .int .u64 150] 97)).alloc (.cells #[.pointer (some ⟨gN, 79, none⟩), .pointer (some ⟨w.heap.size, 0, none⟩), .int .u64 150] 97)) (.cells #[.string x, .string y] 77)
  have st := er_sS tb (w.heap.size + 1 + 1 + 1) x y ((((w.alloc (.cells #[.pointer (some ⟨tb, 0, none⟩)] 79)).alloc (.cells #[.pointer (some ⟨gN, 79, none⟩), .pointer (some ⟨w.heap.size, 0, none⟩), .int .u64 150] 97)).alloc (.cells #[.pointer (some ⟨gN, 79, none⟩), .pointer (some ⟨w.heap.size, 0, none⟩), .int .u64 150] 97)).alloc (.cells #[.string x, .string y] 77)) (duo_cell C4).1 (duo_cell C4).2.1 (by rw [(duo_cell R4).1]; rfl) (by rw [(duo_cell R4).2.1]; rfl) (duo_cell R4).2.2.1 (duo_cell R4).2.2.2
  have hB5 := Below.setCell (Below.setCell (hB4.mono (Nat.le_of_lt htl)) (p := ⟨tb, 0, none⟩) (Nat.le_refl _) (.string x)) (p := ⟨tb, 1, none⟩) (Nat.le_refl _) (.string y)
  clear hB4 R4 C4 ht0
  go_enter Tryz.func62, Tryz.ntmps62
  go_wp2
  refine wp_loop_rounds 1 ?_
  rw [rounds_succ]
  go_wp2
  go_ret
  exact ⟨rfl, hB5⟩
/-- No error is not refused. -/
theorem iRef_no (w : World) : Calls Tryz.prog 29 #[.nilIface] w fun e w' => e = .returned (.bool false) ∧ Below w.heap.size w w' := by
  go_enter Tryz.func29, Tryz.ntmps29
  go_wp2_with (go_at_call 62; refine (er_nil _ _).mono ?_; rintro e w1 ⟨rfl, rfl⟩)
  go_ret
  exact ⟨rfl, Joins.below_alloc1 w _⟩
/-- The program's own error is refused. -/
theorem iRef_yes (w : World) (x y : ByteArray) (B : Nat) (hB0 : B ≤ w.heap.size) (he : ErrB B w) : Calls Tryz.prog 29 #[.iface 77 (.agg #[.string x, .string y])] w fun e w' => e = .returned (.bool true) ∧ Below w.heap.size w w' := by
  have HC := Lib.hid (keepC (Joins.below_alloc1 w (.cells #[.string ByteArray.empty, .string ByteArray.empty] 77)) (Nat.lt_of_lt_of_le he.1 hB0) he.2)
  have HT := Lib.hid (heap_alloc_new w (.cells #[.string ByteArray.empty, .string ByteArray.empty] 77))
  have HB := Lib.hid (Joins.below_alloc1 w (.cells #[.string ByteArray.empty, .string ByteArray.empty] 77))
  clear he
  go_enter Tryz.func29, Tryz.ntmps29
  go_wp2_with (go_at_call 62; refine (er_as _ x y ByteArray.empty ByteArray.empty w.heap.size HC.out HT.out).mono ?_; rintro e w1 ⟨rfl, hb1⟩)
  go_ret
  exact ⟨rfl, HB.out.trans hb1⟩
end Go.Proofs.YtfkleihnafeoeaaGreatDoor

namespace Go.Proofs.YtfkleihnafeoeaaGreatDoor
open Go.RowKit Go.Shelf
section
variable {P : Program} {Q : Exit → Act → World → Prop} {l n : Nat}
theorem oper_round {o : Oper} {a : Act} {w : World} {K K' : Act → World → Prop} (hd : ∀ c, o.op ≠ .defer c) (h : o.wp P a w K Q) (hK : ∀ a w, K a w → K' a w) :
    o.wpIn (Fence.wide.inRound l) n P a w K' Q := by
  unfold Oper.wp at h
  unfold Oper.wpIn
  refine ⟨fun _ _ => trivial, ?_⟩
  rw [Oper.semAt_eq _ _ _ hd]
  generalize (execOp a.eval o).run P w = r at h
  have hno : (Fence.wide.inRound l).depth.isSome = true → 1 ≤ n := fun e => by simp [Fence.wide] at e
  cases r with
  | ok x w' =>
    cases x with
    | value v => exact hK _ _ h
    | skip => exact hK _ _ h
    | defer d => exact hK _ _ h
    | enter f args =>
      refine ⟨hno, CallsIn.inRound l (callsIn_wide.2 (Calls.mono h ?_))⟩
      intro e w'' he
      cases e with
      | returned v => exact hK _ _ he
      | panicked c => exact he
      | outgrown => exact he
    | row row args =>
      refine ⟨hno, fun c cs _ => ?_⟩
      obtain ⟨v, w'', r, s⟩ := h c cs
      exact ⟨v, w'', hK _ _ r, stepsIn_wide.2 s⟩
    | _ => exact (h : False).elim
  | halt x w' =>
    cases x with
    | panic v => exact h
    | _ => exact (h : False).elim
theorem any_round {md : Region.Mode} {ops : Array Oper} (hd : ∀ (i : Nat) (o : Oper), ops[i]? = some o → ∀ c, o.op ≠ .defer c) (hQ : ¬ LetsOut Q) :
    ∀ (fuel : Nat) (listed : Array Bool) (a : Act) (w : World), wpAny P md ops Q fuel listed a w → wpAnyIn (Fence.wide.inRound l) n P md ops Q fuel listed a w
  | 0, _, _, _, h => h
  | fuel + 1, listed, a, w, h => ⟨h.1, fun i hi => by
    have h2 := h.2 i hi
    unfold wpOp at h2
    unfold wpOpIn
    cases ho : ops[i]? with
    | none => rw [ho] at h2; exact any_round hd hQ fuel _ _ _ h2
    | some o =>
      rw [ho] at h2
      simp only at h2 ⊢
      split
      · next hw =>
        rw [if_pos hw] at h2
        rcases h2 with h3 | h3
        · exact oper_round (hd i o ho) h3 (fun a w h4 => any_round hd hQ fuel _ _ _ h4)
        · exact absurd h3.2 hQ
      · next hw =>
        rw [if_neg hw] at h2
        exact ⟨fun _ _ => trivial, any_round hd hQ fuel _ _ _ h2⟩⟩
theorem region_round {id : Nat} {ops : Array Oper} {S : World → Prop} {a : Act} {w : World} (hm : P.follows .mixedOrders = true) (hd : ∀ (i : Nat) (o : Oper), ops[i]? = some o → ∀ c, o.op ≠ .defer c) (hQ : ¬ LetsOut Q) (hS : S w.drew)
    (h : S w.drew → wpAnyH P .any ops Q S ops.size (Array.replicate ops.size false) a w.drew) : (Code.region id ops true).wpIn (Fence.wide.inRound l) n P Q a w :=
  wpIn_region_any hm (any_round hd hQ _ _ _ _ (wpAny_of_held _ _ _ _ (h hS)))
end
end Go.Proofs.YtfkleihnafeoeaaGreatDoor

namespace Go.Proofs.YtfkleihnafeoeaaGreatDoor
open Go.RowKit Go.Shelf
attribute [local go_sem] Oper.semAt_some
set_option maxRecDepth 1000000
/-- A block of cells stays as it is where blocks that are no cells turn. -/
theorem cells_own {β : Type} (b : Nat) (f : β → Array Value) (t : TypeId) : Own (fun (s : β) W => W.heap[b]? = some (.cells (f s) t (0, 0))) := fun s W W' row hs hg hr =>
  (hg.block b (Array.getElem?_eq_some_iff.1 hs).1 (fun e => by obtain ⟨o, ho, hc⟩ := hr b e.symm; rw [hs] at ho; cases ho; cases hc)).trans hs
def isDef : Op → Bool
  | .defer _ => true
  | _ => false
theorem no_defer {ops : Array Oper} (h : (ops.toList.all fun o => !isDef o.op) = true) : ∀ (i : Nat) (o : Oper), ops[i]? = some o → ∀ c, o.op ≠ .defer c := fun i o ho c e => by
  have h1 := List.all_eq_true.1 h o (by rw [← Array.getElem?_toList] at ho; exact List.mem_of_getElem? ho)
  rw [e] at h1
  cases h1
theorem keeps_below {W W' : World} (h : Below W.drew.heap.size W.drew W') : KeepsOthers W W' := ⟨h.size, fun k _ ho _ => (h.block k (Array.getElem?_eq_some_iff.1 ho).1).trans ho⟩
end Go.Proofs.YtfkleihnafeoeaaGreatDoor

namespace Go.Proofs.YtfkleihnafeoeaaGreatDoor
open Go.RowKit Go.Shelf
attribute [local go_sem] Oper.semAt_some
set_option maxRecDepth 1000000
/-- The set s moved by x, by the three places. -/
def shG (p q r : Int) (s x : Nat) : Nat := orF (shF p q r ((x : Int) % p) ((x : Int) / p % q) ((x : Int) / p / q % r)) (bitsN s)
theorem shG_lt {p q r : Int} (h : Tri p q r) {s x : Nat} (hs : s < 2 ^ (p * q * r).toNat) (hx : (x : Int) < p * q * r) : shG p q r s x < 2 ^ (p * q * r).toNat := by
  have hp : ((p.toNat : Nat) : Int) = p := Int.toNat_of_nonneg (by have := h.p1; omega)
  have hq : ((q.toNat : Nat) : Int) = q := Int.toNat_of_nonneg (by have := h.q1; omega)
  have hr : ((r.toNat : Nat) : Int) = r := Int.toNat_of_nonneg (by have := h.r1; omega)
  obtain ⟨h1, h2, h3, h4, h5, h6, h7, h8, h9, h10⟩ := h
  have e : p.toNat * q.toNat * r.toNat = (p * q * r).toNat := by
    have : ((p.toNat * q.toNat * r.toNat : Nat) : Int) = p * q * r := by rw [Int.natCast_mul, Int.natCast_mul, hp, hq, hr]
    omega
  have g1 := shN_orF (p := p.toNat) (q := q.toNat) (r := r.toNat) (x := x) (s := s) (by omega) (by omega) (by omega) (by omega) (by omega) (by rw [e]; exact hs)
  have g2 := (shN_bit (p := p.toNat) (q := q.toNat) (r := r.toNat) (x := x) (s := s) (by omega) (by omega) (by omega) (by omega) (by omega) (by rw [e]; exact hs)).1
  rw [hp, hq, hr] at g1
  rw [g1, e] at g2
  exact g2
theorem iShG (w : World) (p q r : Int) (s x : Nat) (h : Tri p q r) (hs : s < 2 ^ (p * q * r).toNat) (hx : (x : Int) < p * q * r) :
    Calls Tryz.prog 65 #[tV p q r, .int .u64 s, .int .i64 x] w fun e w' => e = .returned (.int .u64 (shG p q r s x : Nat)) ∧ Below w.heap.size w w' := iShiftN w p q r s x h hs hx
theorem tri_pow {p q r : Int} (h : Tri p q r) {s : Nat} (hs : s < 2 ^ (p * q * r).toNat) : s < 2 ^ 24 :=
  Nat.lt_of_lt_of_le hs (Nat.pow_le_pow_right (by decide) (by have := h.pqr2; omega))
theorem tri_elt {p q r : Int} (h : Tri p q r) {s x : Nat} (hs : s < 2 ^ (p * q * r).toNat) (hx : s.testBit x = true) : (x : Int) < p * q * r := by
  have h1 := h.pqr1
  have : x < (p * q * r).toNat := by
    rcases Nat.lt_or_ge x (p * q * r).toNat with h2 | h2
    · exact h2
    · rw [bit_no hs x h2] at hx; cases hx
  omega
theorem orU (a b : Nat) (ha : a < 16777216) (hb : b < 16777216) : bits .or .u64 (a : Int) (b : Int) = ((a ||| b : Nat) : Int) := bits_or_u64_nat a b (by omega) (by omega)
set_option maxHeartbeats 4000000 in
theorem iSum (w : World) (p q r : Int) (s t : Nat) (h : Tri p q r) (hs : s < 2 ^ (p * q * r).toNat) (ht2 : t < 2 ^ (p * q * r).toNat) (B : Nat) (hB0 : B ≤ w.heap.size) (ht : TabZ B w) :
    Calls Tryz.prog 31 #[tV p q r, .int .u64 s, .int .u64 t] w fun e w' => e = .returned (.int .u64 (orG (fun x => shG p q r t x) (bitsN s) : Nat)) ∧ Below w.heap.size w w' := by
  have HG0 : Hid (∀ x : Nat, (x : Int) < p * q * r → shG p q r t x < 2 ^ (p * q * r).toNat) := Lib.hid (fun x hx => shG_lt h ht2 hx)
  obtain ⟨G, HGG⟩ : ∃ G, Hid ((fun x => shG p q r t x) = G) := ⟨_, Lib.hid rfl⟩
  have HGV : Hid (∀ x : Nat, shG p q r t x = G x) := Lib.hid (fun x => by rw [← HGG.out])
  rw [HGG.out]
  refine (callsIn_wide (n := 4)).1 ?_
  refine callsIn_of_wp_marks Tryz.func31 rfl trivial ?_ rfl
  simp only [Tryz.ntmps31, List.size_toArray, List.length_cons, List.length_nil, Nat.reduceAdd, Nat.reduceSub, Array.replicate_succ, Array.replicate_zero, List.push_toArray, List.append_toArray, List.nil_append, List.cons_append]
  have HT := Lib.hid h
  have HSN := Lib.hid hs
  have HS := Lib.hid (tri_pow h hs)
  have HTS := Lib.hid ht2
  have B2 : Below w.heap.size w (((w.alloc (.cells #[.int .i64 p, .int .i64 q, .int .i64 r] 44)).alloc (.cells #[.int .u64 t] 46)).alloc (.cells #[.int .u64 0] 46)) := Joins.below_alloc3 w _ _ _
  have L1 : (((w.alloc (.cells #[.int .i64 p, .int .i64 q, .int .i64 r] 44)).alloc (.cells #[.int .u64 t] 46)).alloc (.cells #[.int .u64 0] 46)).heap[w.heap.size]? = some (.cells #[.int .i64 p, .int .i64 q, .int .i64 r] 44 (0, 0)) := keepH (Joins.below_alloc2 _ (.cells #[.int .u64 t] 46) (.cells #[.int .u64 0] 46)) (by simp) (heap_alloc_new w (.cells #[.int .i64 p, .int .i64 q, .int .i64 r] 44))
  have L3 : (((w.alloc (.cells #[.int .i64 p, .int .i64 q, .int .i64 r] 44)).alloc (.cells #[.int .u64 t] 46)).alloc (.cells #[.int .u64 0] 46)).heap[w.heap.size + 1]? = some (.cells #[.int .u64 t] 46 (0, 0)) := keepH (Joins.below_alloc1 _ (.cells #[.int .u64 0] 46)) (by simp) (by simpa using heap_alloc_new (w.alloc (.cells #[.int .i64 p, .int .i64 q, .int .i64 r] 44)) (.cells #[.int .u64 t] 46))
  have L2 : (((w.alloc (.cells #[.int .i64 p, .int .i64 q, .int .i64 r] 44)).alloc (.cells #[.int .u64 t] 46)).alloc (.cells #[.int .u64 0] 46)).heap[w.heap.size + 2]? = some (.cells #[.int .u64 0] 46 (0, 0)) := by simpa using heap_alloc_new ((w.alloc (.cells #[.int .i64 p, .int .i64 q, .int .i64 r] 44)).alloc (.cells #[.int .u64 t] 46)) (.cells #[.int .u64 0] 46)
  have HL1 := Lib.hid L1
  have HL2 := Lib.hid L2
  have HL3 := Lib.hid L3
  clear L1 L2 L3 h hs ht2
  gi_wp2
  refine each_loopP s HS.out rfl B
    (fun pre W => (W.heap[w.heap.size + 2]? = some (.cells #[.int .u64 (orG G pre : Nat)] 46 (0, 0)) ∧ W.heap[w.heap.size]? = some (.cells #[.int .i64 p, .int .i64 q, .int .i64 r] 44 (0, 0)) ∧ W.heap[w.heap.size + 1]? = some (.cells #[.int .u64 t] 46 (0, 0))) ∧ Below w.heap.size w W)
    (OwnFrom.and (Own.from (fun s W W' row hs hg hr => ⟨cells_own (w.heap.size + 2) (fun pre => #[.int .u64 (orG G pre : Nat)]) 46 s W W' row hs.1 hg hr, cells_own (β := List Nat) w.heap.size (fun _ => #[.int .i64 p, .int .i64 q, .int .i64 r]) 44 s W W' row hs.2.1 hg hr, cells_own (β := List Nat) (w.heap.size + 1) (fun _ => #[.int .u64 t]) 46 s W W' row hs.2.2 hg hr⟩) _) (ownFrom_below (Nat.le_refl _) (by simp; omega)))
    (fun pre W h => ht.on (h.2.mono hB0))
    ⟨⟨HL2.out, HL1.out, HL3.out⟩, B2⟩
    (fun y => { tmps := #[tV p q r, .int .u64 s, .int .u64 t, .pointer (some ⟨w.heap.size, 0, none⟩), undef, .pointer (some ⟨w.heap.size + 1, 0, none⟩), .int .u64 0, .pointer (some ⟨w.heap.size + 2, 0, none⟩), .int .i64 (y : Nat),
      .int .u64 s, .func (.func 64) #[.int .u64 s] #[], .int .i64 (y : Nat), undef, undef, undef, undef, undef, undef, undef], defers := [] }) ?assign ?body ?done
  case assign =>
    intro l y W K hK
    gi_wp2
    exact hK
  case body =>
    rintro l pre y W hpin hbt hpl ⟨⟨b1, b2, b3⟩, hB⟩
    have HB1 := Lib.hid b1
    have HB2 := Lib.hid b2
    have HB3 := Lib.hid b3
    have HBW := Lib.hid hB
    have c1 : W.cell? ⟨w.heap.size + 2, 0, none⟩ = some (.int .u64 (orG G pre : Nat)) := by simp [World.cell?, b1]
    have f1 : W.frozen? ⟨w.heap.size + 2, 0, none⟩ = false := by simp [World.frozen?, b1]
    obtain ⟨d0, d1, d2, _, _, _⟩ := trip_cell b2
    have e0 : W.cell? ⟨w.heap.size + 1, 0, none⟩ = some (.int .u64 t) := by simp [World.cell?, b3]
    clear b1 b2 b3 hB
    have HYN := Lib.hid (tri_elt HT.out HSN.out hbt)
    have hOl : orG G pre < 2 ^ (p * q * r).toNat := orG_lt _ _ _ (fun x hx => by rw [← HGV.out]; exact HG0.out x (tri_elt HT.out HSN.out (hpin x hx)))
    have hVl := HG0.out y HYN.out
    obtain ⟨O, HOO⟩ : ∃ O, Hid (orG G pre = O) := ⟨_, Lib.hid rfl⟩
    obtain ⟨V, HV⟩ : ∃ V, Hid (G y = V) := ⟨_, Lib.hid rfl⟩
    rw [HOO.out] at c1 hOl
    rw [HGV.out, HV.out] at hVl
    have HOR := Lib.hid (orU O V (lt24 (tri_pow HT.out hOl)) (lt24 (tri_pow HT.out hVl)))
    have HSH : Hid (shG p q r t y = V) := Lib.hid (by rw [HGV.out, HV.out])
    clear hOl hVl
    gi_wp2
    refine region_round (S := (fun W' => W'.cell? ⟨w.heap.size, 0, none⟩ = some (.int .i64 p) ∧ W'.cell? ⟨w.heap.size, 1, none⟩ = some (.int .i64 q) ∧ W'.cell? ⟨w.heap.size, 2, none⟩ = some (.int .i64 r) ∧ W'.cell? ⟨w.heap.size + 1, 0, none⟩ = some (.int .u64 t)))
      (by kernel_rfl) (no_defer (by kernel_rfl)) (fun ⟨a', w', h'⟩ => by have h3 := And.left (a := Exit.outgrown = Exit.normal) h'; cases h3) ⟨d0, d1, d2, e0⟩ (fun hHeld => ?_)
    refine wpAnyH_take (i := 1) (oi := _) (v := (tV p q r)) rfl (by kernel_rfl) (by kernel_rfl) (by kernel_rfl) (fun _ _ _ h => h) (Or.inl ⟨by rfl, ?_⟩) (by assumption) ?_
    · intro W' hSw
      obtain ⟨z0, z1, z2, z3⟩ := hSw
      simp only [List.getElem_toArray, List.getElem_cons_succ, List.getElem_cons_zero]
      go_simp
    simp only [Act.put, List.getElem_toArray, List.getElem_cons_succ, List.getElem_cons_zero, List.setIfInBounds_toArray, List.set_cons_zero, List.set_cons_succ]
    refine wpAnyH_take (i := 2) (oi := _) (v := (.int .u64 t)) rfl (by kernel_rfl) (by kernel_rfl) (by kernel_rfl) (fun _ _ _ h => h) (Or.inl ⟨by rfl, ?_⟩) (by assumption) ?_
    · intro W' hSw
      obtain ⟨z0, z1, z2, z3⟩ := hSw
      simp only [List.getElem_toArray, List.getElem_cons_succ, List.getElem_cons_zero]
      go_simp
    simp only [Act.put, List.getElem_toArray, List.getElem_cons_succ, List.getElem_cons_zero, List.setIfInBounds_toArray, List.set_cons_zero, List.set_cons_succ]
    refine wpAnyH_take (i := 3) (oi := _) (v := (.int .i64 (y : Nat))) rfl (by kernel_rfl) (by kernel_rfl) (by kernel_rfl) (fun _ _ _ h => h) (Or.inl ⟨by rfl, ?_⟩) (by assumption) ?_
    · intro W' hSw
      obtain ⟨z0, z1, z2, z3⟩ := hSw
      simp only [List.getElem_toArray, List.getElem_cons_succ, List.getElem_cons_zero]
      go_simp
    simp only [Act.put, List.getElem_toArray, List.getElem_cons_succ, List.getElem_cons_zero, List.setIfInBounds_toArray, List.set_cons_zero, List.set_cons_succ]
    have HS0 := Lib.hid hHeld
    have Z0 : w.heap.size < W.drew.heap.size := by have := HBW.out.size; have := (Array.getElem?_eq_some_iff.1 HB1.out).1; simp at *; omega
    have ZS : w.heap.size + 2 < W.drew.heap.size := by have := (Array.getElem?_eq_some_iff.1 HB1.out).1; simpa using this
    have Z3 : w.heap.size + 1 < W.drew.heap.size := by have := (Array.getElem?_eq_some_iff.1 HB3.out).1; simpa using this
    have c1' : W.drew.cell? ⟨w.heap.size + 2, 0, none⟩ = some (.int .u64 (O : Nat)) := c1 
    have f1' : W.drew.frozen? ⟨w.heap.size + 2, 0, none⟩ = false := f1 
    have HC := Lib.hid c1'
    have HFr := Lib.hid f1'
    clear c1 f1 c1' f1'
    have T2 := Lib.hid (Below.refl W.drew.heap.size W.drew)
    refine wpAnyH_ready (rs := [0, 4]) (by kernel_rfl) (by simp) ?_
    refine AllReadyH.cons (o := _) rfl (fun K hK => ?_) (AllReadyH.cons (o := _) rfl (fun K hK => ?_) (AllReadyH.nil))
    · simp only [List.getElem_toArray, List.getElem_cons_zero]
      have cc := keepC T2.out ZS HC.out
      go_simp
      clear cc
      refine hK.out _ _ (by obtain ⟨z0, z1, z2, z3⟩ := HS0.out; exact ⟨keepC T2.out Z0 z0, keepC T2.out Z0 z1, keepC T2.out Z0 z2, keepC T2.out Z3 z3⟩) (fun hHeld => ?_)
      clear hK K
      try simp only [Act.put, List.getElem_toArray, List.getElem_cons_zero, List.setIfInBounds_toArray, List.set_cons_zero, List.set_cons_succ]
      refine wpAnyH_ready (rs := [4]) (by kernel_rfl) (by simp) ?_
      refine AllReadyH.cons (o := _) rfl (fun K hK => ?_) (AllReadyH.nil)
      simp only [List.getElem_toArray, List.getElem_cons_succ, List.getElem_cons_zero]
      go_simp
      refine (iShG _ p q r t y HT.out HTS.out HYN.out).mono ?_
      rw [HSH.out]
      rintro e w3 ⟨rfl, hb3⟩
      have T3 := Lib.hid (T2.out.trans (hb3.mono T2.out.size))
      refine hK.out _ _ (by obtain ⟨z0, z1, z2, z3⟩ := HS0.out; exact ⟨keepC T3.out Z0 z0, keepC T3.out Z0 z1, keepC T3.out Z0 z2, keepC T3.out Z3 z3⟩) (fun hHeld => ?_)
      clear hK K
      try simp only [Act.put, List.getElem_toArray, List.getElem_cons_succ, List.getElem_cons_zero, List.setIfInBounds_toArray, List.set_cons_zero, List.set_cons_succ]
      refine wpAnyH_ready (rs := [5]) (by kernel_rfl) (by simp) ?_
      refine AllReadyH.cons (o := _) rfl (fun K hK => ?_) (AllReadyH.nil)
      simp only [List.getElem_toArray, List.getElem_cons_succ, List.getElem_cons_zero]
      have hor := HOR.out
      go_simp
      clear hor
      refine hK.out _ _ (by obtain ⟨z0, z1, z2, z3⟩ := HS0.out; exact ⟨keepC T3.out Z0 z0, keepC T3.out Z0 z1, keepC T3.out Z0 z2, keepC T3.out Z3 z3⟩) (fun hHeld => ?_)
      clear hK K
      try simp only [Act.put, List.getElem_toArray, List.getElem_cons_succ, List.getElem_cons_zero, List.setIfInBounds_toArray, List.set_cons_zero, List.set_cons_succ]
      refine wpAnyH_ready (rs := [6]) (by kernel_rfl) (by simp) ?_
      refine AllReadyH.cons (o := _) rfl (fun K hK => ?_) (AllReadyH.nil)
      simp only [List.getElem_toArray, List.getElem_cons_succ, List.getElem_cons_zero]
      have cc := keepC T3.out ZS HC.out
      have ff := keepF T3.out ZS HFr.out
      go_simp
      clear cc ff
      refine hK.out _ _ (by obtain ⟨z0, z1, z2, z3⟩ := HS0.out; exact ⟨(World.cell?_setCell_far _ _ _ _ (by simp)).trans (keepC T3.out Z0 z0), (World.cell?_setCell_far _ _ _ _ (by simp)).trans (keepC T3.out Z0 z1), (World.cell?_setCell_far _ _ _ _ (by simp)).trans (keepC T3.out Z0 z2), (World.cell?_setCell_far _ _ _ _ (by simp)).trans (keepC T3.out Z3 z3)⟩) (fun hHeld => ?_)
      clear hK K
      try simp only [Act.put, List.getElem_toArray, List.getElem_cons_succ, List.getElem_cons_zero, List.setIfInBounds_toArray, List.set_cons_zero, List.set_cons_succ]
      refine wpAnyH_done (by kernel_rfl) ?_ _
      have hk := keepH T3.out ZS HB1.out
      have hk0 := keepH T3.out Z0 HB2.out
      have hk3 := keepH T3.out Z3 HB3.out
      exact ⟨rfl, (keeps_below (W := W) T3.out).trans (KeepsOthers.setCell _ _ _), ⟨by rw [orG_snoc, HV.out, HOO.out]; exact Boxed.set _ hk, (grownBy_setCell' _ _ _).block _ (Array.getElem?_eq_some_iff.1 hk0).1 (by simp) |>.trans hk0, (grownBy_setCell' _ _ _).block _ (Array.getElem?_eq_some_iff.1 hk3).1 (by simp) |>.trans hk3⟩, (HBW.out.drew.trans (T3.out.mono HBW.out.size)).setCell (p := ⟨w.heap.size + 2, 0, none⟩) (by simp) _⟩
    · simp only [List.getElem_toArray, List.getElem_cons_succ, List.getElem_cons_zero]
      go_simp
      refine (iShG _ p q r t y HT.out HTS.out HYN.out).mono ?_
      rw [HSH.out]
      rintro e w3 ⟨rfl, hb3⟩
      have T3 := Lib.hid (T2.out.trans (hb3.mono T2.out.size))
      refine hK.out _ _ (by obtain ⟨z0, z1, z2, z3⟩ := HS0.out; exact ⟨keepC T3.out Z0 z0, keepC T3.out Z0 z1, keepC T3.out Z0 z2, keepC T3.out Z3 z3⟩) (fun hHeld => ?_)
      clear hK K
      try simp only [Act.put, List.getElem_toArray, List.getElem_cons_succ, List.getElem_cons_zero, List.setIfInBounds_toArray, List.set_cons_zero, List.set_cons_succ]
      refine wpAnyH_ready (rs := [0]) (by kernel_rfl) (by simp) ?_
      refine AllReadyH.cons (o := _) rfl (fun K hK => ?_) (AllReadyH.nil)
      simp only [List.getElem_toArray, List.getElem_cons_zero]
      have cc := keepC T3.out ZS HC.out
      go_simp
      clear cc
      refine hK.out _ _ (by obtain ⟨z0, z1, z2, z3⟩ := HS0.out; exact ⟨keepC T3.out Z0 z0, keepC T3.out Z0 z1, keepC T3.out Z0 z2, keepC T3.out Z3 z3⟩) (fun hHeld => ?_)
      clear hK K
      try simp only [Act.put, List.getElem_toArray, List.getElem_cons_zero, List.setIfInBounds_toArray, List.set_cons_zero, List.set_cons_succ]
      refine wpAnyH_ready (rs := [5]) (by kernel_rfl) (by simp) ?_
      refine AllReadyH.cons (o := _) rfl (fun K hK => ?_) (AllReadyH.nil)
      simp only [List.getElem_toArray, List.getElem_cons_succ, List.getElem_cons_zero]
      have hor := HOR.out
      go_simp
      clear hor
      refine hK.out _ _ (by obtain ⟨z0, z1, z2, z3⟩ := HS0.out; exact ⟨keepC T3.out Z0 z0, keepC T3.out Z0 z1, keepC T3.out Z0 z2, keepC T3.out Z3 z3⟩) (fun hHeld => ?_)
      clear hK K
      try simp only [Act.put, List.getElem_toArray, List.getElem_cons_succ, List.getElem_cons_zero, List.setIfInBounds_toArray, List.set_cons_zero, List.set_cons_succ]
      refine wpAnyH_ready (rs := [6]) (by kernel_rfl) (by simp) ?_
      refine AllReadyH.cons (o := _) rfl (fun K hK => ?_) (AllReadyH.nil)
      simp only [List.getElem_toArray, List.getElem_cons_succ, List.getElem_cons_zero]
      have cc := keepC T3.out ZS HC.out
      have ff := keepF T3.out ZS HFr.out
      go_simp
      clear cc ff
      refine hK.out _ _ (by obtain ⟨z0, z1, z2, z3⟩ := HS0.out; exact ⟨(World.cell?_setCell_far _ _ _ _ (by simp)).trans (keepC T3.out Z0 z0), (World.cell?_setCell_far _ _ _ _ (by simp)).trans (keepC T3.out Z0 z1), (World.cell?_setCell_far _ _ _ _ (by simp)).trans (keepC T3.out Z0 z2), (World.cell?_setCell_far _ _ _ _ (by simp)).trans (keepC T3.out Z3 z3)⟩) (fun hHeld => ?_)
      clear hK K
      try simp only [Act.put, List.getElem_toArray, List.getElem_cons_succ, List.getElem_cons_zero, List.setIfInBounds_toArray, List.set_cons_zero, List.set_cons_succ]
      refine wpAnyH_done (by kernel_rfl) ?_ _
      have hk := keepH T3.out ZS HB1.out
      have hk0 := keepH T3.out Z0 HB2.out
      have hk3 := keepH T3.out Z3 HB3.out
      exact ⟨rfl, (keeps_below (W := W) T3.out).trans (KeepsOthers.setCell _ _ _), ⟨by rw [orG_snoc, HV.out, HOO.out]; exact Boxed.set _ hk, (grownBy_setCell' _ _ _).block _ (Array.getElem?_eq_some_iff.1 hk0).1 (by simp) |>.trans hk0, (grownBy_setCell' _ _ _).block _ (Array.getElem?_eq_some_iff.1 hk3).1 (by simp) |>.trans hk3⟩, (HBW.out.drew.trans (T3.out.mono HBW.out.size)).setCell (p := ⟨w.heap.size + 2, 0, none⟩) (by simp) _⟩
  case done =>
    rintro D W hD ⟨⟨b1, b2, b3⟩, hB⟩ hK
    have c1 : W.cell? ⟨w.heap.size + 2, 0, none⟩ = some (.int .u64 (orG G (bitsN s) : Nat)) := by simp [World.cell?, b1]
    gi_wp2
    refine ⟨by simp, .inl ⟨_, _, rfl, run_takeDeferred hK, ?_⟩⟩
    exact ⟨_, results_tmp rfl _ _ _, rfl, hB.trans (belowK_b (w := w) (Nat.le_refl _) W D _ _ (by simp at hD; omega) hK rfl rfl)⟩
end Go.Proofs.YtfkleihnafeoeaaGreatDoor

namespace Go.Proofs.YtfkleihnafeoeaaGreatDoor
open Go.RowKit Go.Shelf
attribute [local go_sem] Oper.semAt_some
set_option maxRecDepth 1000000
/-- The multiple of an element, by its three places. -/
def dilF (p q r k : Int) (y : Nat) : Int := (y : Int) % p * k % p + p * ((y : Int) / p % q * k % q) + p * q * ((y : Int) / p / q % r * k % r)
theorem dilF_bnd {p q r k : Int} (h : Tri p q r) (y : Nat) : 0 ≤ dilF p q r k y ∧ dilF p q r k y ≤ 23 := by
  have a := emod_b (a := (y : Int) % p * k) h.p1
  have b := emod_b (a := (y : Int) / p % q * k) h.q1
  have c := emod_b (a := (y : Int) / p / q % r * k) h.r1
  have h3 := h.pqr2
  have hp := h.p1
  have hq := h.q1
  have hpq := h.pq1
  unfold dilF
  generalize (y : Int) % p * k % p = A at *
  generalize (y : Int) / p % q * k % q = B at *
  generalize (y : Int) / p / q % r * k % r = C at *
  have m1 : 0 ≤ p * B := Int.mul_nonneg (by omega) b.1
  have m2 : p * B ≤ p * (q - 1) := Int.mul_le_mul_of_nonneg_left (by omega) (by omega)
  have m3 : 0 ≤ p * q * C := Int.mul_nonneg (by omega) c.1
  have m4 : p * q * C ≤ p * q * (r - 1) := Int.mul_le_mul_of_nonneg_left (by omega) (by omega)
  rw [Int.mul_sub, Int.mul_one] at m2 m4
  omega
theorem orF_dil_lt {p q r k : Int} (h : Tri p q r) (L : List Nat) : orF (dilF p q r k) L < 16777216 :=
  orF_lt _ _ 24 (fun x _ => by have := dilF_bnd (k := k) h x; omega)
end Go.Proofs.YtfkleihnafeoeaaGreatDoor

namespace Go.Proofs.YtfkleihnafeoeaaGreatDoor
open Go.RowKit
set_option maxRecDepth 1000000
theorem sh_tri {l : List Int} (h : grpB l = true) (x : Int) (L : List Nat) :
    orF (fun y => addN l (y : Int) x) L = orF (shF (l.getD 0 1) (l.getD 1 1) (l.getD 2 1) (x % l.getD 0 1) (x / l.getD 0 1 % l.getD 1 1) (x / l.getD 0 1 / l.getD 1 1 % l.getD 2 1)) L :=
  orF_congr _ _ L (fun y _ => by
    have := (tri_grp h).p1
    rw [add_tri (grpB_true h).1 (y : Int) x (by omega)]; rfl)
end Go.Proofs.YtfkleihnafeoeaaGreatDoor

namespace Go.Proofs.YtfkleihnafeoeaaGreatDoor
open Go.RowKit
set_option maxRecDepth 1000000
theorem dl_tri {l : List Int} (h : grpB l = true) (k : Int) (L : List Nat) :
    orF (fun y => mulN l (y : Int) k) L = orF (dilF (l.getD 0 1) (l.getD 1 1) (l.getD 2 1) k) L :=
  orF_congr _ _ L (fun y _ => by
    have := (tri_grp h).p1
    rw [mul_tri (grpB_true h).1 (y : Int) k (by omega)]; rfl)
end Go.Proofs.YtfkleihnafeoeaaGreatDoor

namespace Go.Proofs.YtfkleihnafeoeaaGreatDoor
open Go.RowKit
set_option maxRecDepth 1000000
/-- What setsIn answers. -/
def SetsInPost (l : List Int) (s t : Int) (w : World) (e : Ending) (w' : World) : Prop :=
  ∃ p q r u v, e = .returned (.tuple #[tV p q r, .int .u64 u, .int .u64 v, .bool (two l s t)]) ∧ (two l s t = true → p = l.getD 0 1 ∧ q = l.getD 1 1 ∧ r = l.getD 2 1 ∧ u = s ∧ v = t) ∧ Below w.heap.size w w'
end Go.Proofs.YtfkleihnafeoeaaGreatDoor

namespace Go.Proofs.YtfkleihnafeoeaaGreatDoor
open Go.RowKit
set_option maxRecDepth 1000000
theorem below_set3k {B b : Nat} {w0 w : World} {x y z : Value} (h : Below B w0 w) (hb : B ≤ b) : Below B w0 (((w.setCell ⟨b, 0, none⟩ x).setCell ⟨b, 1, none⟩ y).setCell ⟨b, 2, none⟩ z) := below_set3 h hb
/-- Whether s is a set that is not empty. -/
def fullB (l : List Int) (s : Int) : Bool := isS l s && !(s == 0)
theorem neB_full (l : List Int) (s t : Int) : neB l s t = (fullB l s && fullB l t) := by
  unfold neB two fullB
  cases isS l s <;> cases isS l t <;> cases (s == 0) <;> cases (t == 0) <;> rfl
set_option maxHeartbeats 2000000 in
theorem iFS_no (w : World) (a : Option Addr) (l : List Int) (n cap : Nat) (s : Int) (nm : ByteArray) (hn : n = l.length) (hm : n ≤ 9223372036854775807) (hi : Ints w a l) (hs : fullB l s = false) :
    Calls Tryz.prog 61 #[.agg #[.slice a n cap], .int .i64 s, .string nm] w fun e w' => ∃ x y, e = .returned (.tuple #[tV 0 0 0, .int .u64 0, .iface 77 (.agg #[.string (x), .string (y)])]) ∧ Below w.heap.size w w' := by
  have HI := Lib.hid (ints_alloc (ints_alloc hi (.cells #[.slice a n cap] 26)) (.cells #[.int .i64 0, .int .i64 0, .int .i64 0] 44))
  have HN := Lib.hid hn
  have C1 := keepC (Joins.below_alloc1 _ (.cells #[.int .i64 0, .int .i64 0, .int .i64 0] 44)) (by simp <;> omega) (newC w (.slice a n cap) 26 (n := w.heap.size) rfl)
  have HB := Lib.hid (Joins.below_alloc2 w (.cells #[.slice a n cap] 26) (.cells #[.int .i64 0, .int .i64 0, .int .i64 0] 44))
  have R1 : Hid (((w.alloc (.cells #[.slice a n cap] 26)).alloc (.cells #[.int .i64 0, .int .i64 0, .int .i64 0] 44)).heap[w.heap.size + 1]? = some (.cells #[.int .i64 0, .int .i64 0, .int .i64 0] 44 (0, 0))) := Lib.hid (by simpa using heap_alloc_new (w.alloc (.cells #[.slice a n cap] 26)) (.cells #[.int .i64 0, .int .i64 0, .int .i64 0] 44))
  have T0 := Lib.hid (Below.refl ((w.alloc (.cells #[.slice a n cap] 26)).alloc (.cells #[.int .i64 0, .int .i64 0, .int .i64 0] 44)).heap.size ((w.alloc (.cells #[.slice a n cap] 26)).alloc (.cells #[.int .i64 0, .int .i64 0, .int .i64 0] 44)))
  clear hi hn
  obtain ⟨p, EP⟩ : ∃ p, Hid (l.getD 0 1 = p) := ⟨_, Lib.hid rfl⟩
  obtain ⟨q, EQ⟩ : ∃ q, Hid (l.getD 1 1 = q) := ⟨_, Lib.hid rfl⟩
  obtain ⟨r, ER⟩ : ∃ r, Hid (l.getD 2 1 = r) := ⟨_, Lib.hid rfl⟩
  cases h1 : isS l s with
  | false =>
    have HS := Lib.hid h1
    clear hs h1
    go_enter Tryz.func61, Tryz.ntmps61
    go_wp2_with (first | (go_at_call 38; refine (iSetIn_no _ _ _ _ _ _ HN.out hm (HI.out.below rfl T0.out) HS.out).mono ?_; rintro e w1 ⟨rfl, hb1⟩; have S1 := Lib.hid (T0.out.trans (hb1.mono T0.out.size)); have T1 := Lib.hid (S1.out.alloc S1.out.size (.cells #[.int .i64 0, .int .i64 0, .int .i64 0] 44)); have cs1 := keepC S1.out (by simp <;> omega) C1; have c1 := keepC T1.out (by simp <;> omega) C1; have R7 := Lib.hid (heap_alloc_new w1 (.cells #[.int .i64 0, .int .i64 0, .int .i64 0] 44)); obtain ⟨x10, x11, x12, x1f0, x1f1, x1f2⟩ := trip_cell (keepH T1.out (by simp <;> omega) R1.out); obtain ⟨z0, z1, z2, zf0, zf1, zf2⟩ := trip_cell R7.out))
    refine bodyPost_ret (v := .tuple #[tV 0 0 0, .int .u64 0, .iface 77 (.agg #[.string (nm), .string (ByteArray.mk #[110, 111, 110, 101, 32, 111, 102, 32, 116, 104, 101, 32, 103, 114, 111, 117, 112])])]) (by simp [results, Tryz.results61, go_sem, x10, x11, x12]) rfl ⟨_, _, rfl, below_set3 (HB.out.trans (T1.out.mono (by simp <;> omega))) (by omega)⟩
  | true =>
    have HS := Lib.hid h1
    have h0 : s = 0 := by
      unfold fullB at hs
      rw [h1] at hs
      simpa using hs
    subst h0
    clear hs h1
    go_enter Tryz.func61, Tryz.ntmps61
    go_wp2_with (first | (go_at_call 38; refine (iSetIn_yes _ _ _ _ _ _ HN.out hm (HI.out.below rfl T0.out) HS.out).mono ?_; rw [EP.out, EQ.out, ER.out]; rintro e w1 ⟨rfl, hb1⟩; have S1 := Lib.hid (T0.out.trans (hb1.mono T0.out.size)); have T1 := Lib.hid (S1.out.alloc S1.out.size (.cells #[.int .i64 p, .int .i64 q, .int .i64 r] 44)); have cs1 := keepC S1.out (by simp <;> omega) C1; have c1 := keepC T1.out (by simp <;> omega) C1; have R7 := Lib.hid (heap_alloc_new w1 (.cells #[.int .i64 p, .int .i64 q, .int .i64 r] 44)); obtain ⟨x10, x11, x12, x1f0, x1f1, x1f2⟩ := trip_cell (keepH T1.out (by simp <;> omega) R1.out); obtain ⟨z0, z1, z2, zf0, zf1, zf2⟩ := trip_cell R7.out))
    refine bodyPost_ret (v := .tuple #[tV 0 0 0, .int .u64 0, .iface 77 (.agg #[.string (nm), .string (ByteArray.mk #[101, 109, 112, 116, 121])])]) (by simp [results, Tryz.results61, go_sem, x10, x11, x12]) rfl ⟨_, _, rfl, below_set3 (HB.out.trans (T1.out.mono (by simp <;> omega))) (by omega)⟩
set_option maxHeartbeats 2000000 in
theorem iFS_yes (w : World) (a : Option Addr) (l : List Int) (n cap : Nat) (s : Int) (nm : ByteArray) (hn : n = l.length) (hm : n ≤ 9223372036854775807) (hi : Ints w a l) (hs : fullB l s = true) :
    Calls Tryz.prog 61 #[.agg #[.slice a n cap], .int .i64 s, .string nm] w fun e w' => e = .returned (.tuple #[tV (l.getD 0 1) (l.getD 1 1) (l.getD 2 1), .int .u64 s, .nilIface]) ∧ Below w.heap.size w w' := by
  have HI := Lib.hid (ints_alloc (ints_alloc hi (.cells #[.slice a n cap] 26)) (.cells #[.int .i64 0, .int .i64 0, .int .i64 0] 44))
  have HN := Lib.hid hn
  have C1 := keepC (Joins.below_alloc1 _ (.cells #[.int .i64 0, .int .i64 0, .int .i64 0] 44)) (by simp <;> omega) (newC w (.slice a n cap) 26 (n := w.heap.size) rfl)
  have HB := Lib.hid (Joins.below_alloc2 w (.cells #[.slice a n cap] 26) (.cells #[.int .i64 0, .int .i64 0, .int .i64 0] 44))
  have R1 : Hid (((w.alloc (.cells #[.slice a n cap] 26)).alloc (.cells #[.int .i64 0, .int .i64 0, .int .i64 0] 44)).heap[w.heap.size + 1]? = some (.cells #[.int .i64 0, .int .i64 0, .int .i64 0] 44 (0, 0))) := Lib.hid (by simpa using heap_alloc_new (w.alloc (.cells #[.slice a n cap] 26)) (.cells #[.int .i64 0, .int .i64 0, .int .i64 0] 44))
  have T0 := Lib.hid (Below.refl ((w.alloc (.cells #[.slice a n cap] 26)).alloc (.cells #[.int .i64 0, .int .i64 0, .int .i64 0] 44)).heap.size ((w.alloc (.cells #[.slice a n cap] 26)).alloc (.cells #[.int .i64 0, .int .i64 0, .int .i64 0] 44)))
  clear hi hn
  obtain ⟨p, EP⟩ : ∃ p, Hid (l.getD 0 1 = p) := ⟨_, Lib.hid rfl⟩
  obtain ⟨q, EQ⟩ : ∃ q, Hid (l.getD 1 1 = q) := ⟨_, Lib.hid rfl⟩
  obtain ⟨r, ER⟩ : ∃ r, Hid (l.getD 2 1 = r) := ⟨_, Lib.hid rfl⟩
  have hs2 : isS l s = true ∧ (s == 0) = false := by
    unfold fullB at hs
    simpa using hs
  have HS := Lib.hid hs2.1
  have h0 : (s == 0) = false := hs2.2
  rw [EP.out, EQ.out, ER.out]
  clear hs hs2
  go_enter Tryz.func61, Tryz.ntmps61
  go_wp2_with (first | (go_at_call 38; refine (iSetIn_yes _ _ _ _ _ _ HN.out hm (HI.out.below rfl T0.out) HS.out).mono ?_; rw [EP.out, EQ.out, ER.out]; rintro e w1 ⟨rfl, hb1⟩; have S1 := Lib.hid (T0.out.trans (hb1.mono T0.out.size)); have T1 := Lib.hid (S1.out.alloc S1.out.size (.cells #[.int .i64 p, .int .i64 q, .int .i64 r] 44)); have cs1 := keepC S1.out (by simp <;> omega) C1; have c1 := keepC T1.out (by simp <;> omega) C1; have R7 := Lib.hid (heap_alloc_new w1 (.cells #[.int .i64 p, .int .i64 q, .int .i64 r] 44)); obtain ⟨x10, x11, x12, x1f0, x1f1, x1f2⟩ := trip_cell (keepH T1.out (by simp <;> omega) R1.out); obtain ⟨z0, z1, z2, zf0, zf1, zf2⟩ := trip_cell R7.out))
  refine bodyPost_ret (v := .tuple #[tV p q r, .int .u64 s, .nilIface]) (by simp [results, Tryz.results61, go_sem, x10, x11, x12]) rfl ⟨rfl, below_set3 (HB.out.trans (T1.out.mono (by simp <;> omega))) (by omega)⟩
set_option maxHeartbeats 4000000 in
theorem iFSS_no (w : World) (a : Option Addr) (l : List Int) (n cap : Nat) (s t : Int) (hn : n = l.length) (hm : n ≤ 9223372036854775807) (hi : Ints w a l) (hs : neB l s t = false) :
    Calls Tryz.prog 28 #[.agg #[.slice a n cap], .int .i64 s, .int .i64 t] w fun e w' => ∃ x y, e = .returned (.tuple #[tV 0 0 0, .int .u64 0, .int .u64 0, .iface 77 (.agg #[.string (x), .string (y)])]) ∧ Below w.heap.size w w' := by
  have HI := Lib.hid (ints_alloc (ints_alloc hi (.cells #[.slice a n cap] 26)) (.cells #[.int .i64 0, .int .i64 0, .int .i64 0] 44))
  have HN := Lib.hid hn
  have C1 := keepC (Joins.below_alloc1 _ (.cells #[.int .i64 0, .int .i64 0, .int .i64 0] 44)) (by simp <;> omega) (newC w (.slice a n cap) 26 (n := w.heap.size) rfl)
  have HB := Lib.hid (Joins.below_alloc2 w (.cells #[.slice a n cap] 26) (.cells #[.int .i64 0, .int .i64 0, .int .i64 0] 44))
  have R1 : Hid (((w.alloc (.cells #[.slice a n cap] 26)).alloc (.cells #[.int .i64 0, .int .i64 0, .int .i64 0] 44)).heap[w.heap.size + 1]? = some (.cells #[.int .i64 0, .int .i64 0, .int .i64 0] 44 (0, 0))) := Lib.hid (by simpa using heap_alloc_new (w.alloc (.cells #[.slice a n cap] 26)) (.cells #[.int .i64 0, .int .i64 0, .int .i64 0] 44))
  have T0 := Lib.hid (Below.refl ((w.alloc (.cells #[.slice a n cap] 26)).alloc (.cells #[.int .i64 0, .int .i64 0, .int .i64 0] 44)).heap.size ((w.alloc (.cells #[.slice a n cap] 26)).alloc (.cells #[.int .i64 0, .int .i64 0, .int .i64 0] 44)))
  clear hi hn
  obtain ⟨p, EP⟩ : ∃ p, Hid (l.getD 0 1 = p) := ⟨_, Lib.hid rfl⟩
  obtain ⟨q, EQ⟩ : ∃ q, Hid (l.getD 1 1 = q) := ⟨_, Lib.hid rfl⟩
  obtain ⟨r, ER⟩ : ∃ r, Hid (l.getD 2 1 = r) := ⟨_, Lib.hid rfl⟩
  rw [neB_full] at hs
  cases h1 : fullB l s with
  | false =>
    have HS := Lib.hid h1
    clear hs h1
    go_enter Tryz.func28, Tryz.ntmps28
    go_wp2_with (first | (go_at_call 61; refine (iFS_no _ _ _ _ _ _ _ HN.out hm (HI.out.below rfl T0.out) HS.out).mono ?_; rintro e w1 ⟨ex1, ey1, rfl, hb1⟩; have S1 := Lib.hid (T0.out.trans (hb1.mono T0.out.size)); have T1 := Lib.hid (S1.out.alloc S1.out.size (.cells #[.int .i64 0, .int .i64 0, .int .i64 0] 44)); have cs1 := keepC S1.out (by simp <;> omega) C1; have c1 := keepC T1.out (by simp <;> omega) C1; have R7 := Lib.hid (heap_alloc_new w1 (.cells #[.int .i64 0, .int .i64 0, .int .i64 0] 44)); obtain ⟨x10, x11, x12, x1f0, x1f1, x1f2⟩ := trip_cell (keepH T1.out (by simp <;> omega) R1.out); obtain ⟨z0, z1, z2, zf0, zf1, zf2⟩ := trip_cell R7.out))
    refine bodyPost_ret (v := .tuple #[tV 0 0 0, .int .u64 0, .int .u64 0, .iface 77 (.agg #[.string (ex1), .string (ey1)])]) (by simp [results, Tryz.results28, go_sem, x10, x11, x12]) rfl ⟨_, _, rfl, below_set3 (HB.out.trans (T1.out.mono (by simp <;> omega))) (by omega)⟩
  | true =>
    have HS := Lib.hid h1
    rw [h1, Bool.true_and] at hs
    have HS2 := Lib.hid hs
    clear hs h1
    go_enter Tryz.func28, Tryz.ntmps28
    go_wp2_with (first
      | (go_at_call 61; have hx_ := T1; clear hx_; refine (iFS_no _ _ _ _ _ _ _ HN.out hm (HI.out.below rfl T1.out) HS2.out).mono ?_; rintro e w2 ⟨ex2, ey2, rfl, hb2⟩; have S2 := Lib.hid (T1.out.trans (hb2.mono T1.out.size)); have T2 := Lib.hid (S2.out.alloc S2.out.size (.cells #[.int .i64 0, .int .i64 0, .int .i64 0] 44)); have cs2 := keepC S2.out (by simp <;> omega) C1; have c2 := keepC T2.out (by simp <;> omega) C1; have R8 := Lib.hid (heap_alloc_new w2 (.cells #[.int .i64 0, .int .i64 0, .int .i64 0] 44)); obtain ⟨x20, x21, x22, x2f0, x2f1, x2f2⟩ := trip_cell (keepH T2.out (by simp <;> omega) R1.out); obtain ⟨y0, y1, y2, yf0, yf1, yf2⟩ := trip_cell (keepH (hb2.alloc hb2.size (.cells #[.int .i64 0, .int .i64 0, .int .i64 0] 44)) (by simp <;> omega) R7.out))
      | (go_at_call 61; refine (iFS_yes _ _ _ _ _ _ _ HN.out hm (HI.out.below rfl T0.out) HS.out).mono ?_; rw [EP.out, EQ.out, ER.out]; rintro e w1 ⟨rfl, hb1⟩; have S1 := Lib.hid (T0.out.trans (hb1.mono T0.out.size)); have T1 := Lib.hid (S1.out.alloc S1.out.size (.cells #[.int .i64 p, .int .i64 q, .int .i64 r] 44)); have cs1 := keepC S1.out (by simp <;> omega) C1; have c1 := keepC T1.out (by simp <;> omega) C1; have R7 := Lib.hid (heap_alloc_new w1 (.cells #[.int .i64 p, .int .i64 q, .int .i64 r] 44)); obtain ⟨x10, x11, x12, x1f0, x1f1, x1f2⟩ := trip_cell (keepH T1.out (by simp <;> omega) R1.out); obtain ⟨z0, z1, z2, zf0, zf1, zf2⟩ := trip_cell R7.out))
    refine bodyPost_ret (v := .tuple #[tV 0 0 0, .int .u64 0, .int .u64 0, .iface 77 (.agg #[.string (ex2), .string (ey2)])]) (by simp [results, Tryz.results28, go_sem, x20, x21, x22]) rfl ⟨_, _, rfl, below_set3 (HB.out.trans (T2.out.mono (by simp <;> omega))) (by omega)⟩
set_option maxHeartbeats 4000000 in
theorem iFSS_yes (w : World) (a : Option Addr) (l : List Int) (n cap : Nat) (s t : Int) (hn : n = l.length) (hm : n ≤ 9223372036854775807) (hi : Ints w a l) (hs : neB l s t = true) :
    Calls Tryz.prog 28 #[.agg #[.slice a n cap], .int .i64 s, .int .i64 t] w fun e w' => e = .returned (.tuple #[tV (l.getD 0 1) (l.getD 1 1) (l.getD 2 1), .int .u64 s, .int .u64 t, .nilIface]) ∧ Below w.heap.size w w' := by
  have HI := Lib.hid (ints_alloc (ints_alloc hi (.cells #[.slice a n cap] 26)) (.cells #[.int .i64 0, .int .i64 0, .int .i64 0] 44))
  have HN := Lib.hid hn
  have C1 := keepC (Joins.below_alloc1 _ (.cells #[.int .i64 0, .int .i64 0, .int .i64 0] 44)) (by simp <;> omega) (newC w (.slice a n cap) 26 (n := w.heap.size) rfl)
  have HB := Lib.hid (Joins.below_alloc2 w (.cells #[.slice a n cap] 26) (.cells #[.int .i64 0, .int .i64 0, .int .i64 0] 44))
  have R1 : Hid (((w.alloc (.cells #[.slice a n cap] 26)).alloc (.cells #[.int .i64 0, .int .i64 0, .int .i64 0] 44)).heap[w.heap.size + 1]? = some (.cells #[.int .i64 0, .int .i64 0, .int .i64 0] 44 (0, 0))) := Lib.hid (by simpa using heap_alloc_new (w.alloc (.cells #[.slice a n cap] 26)) (.cells #[.int .i64 0, .int .i64 0, .int .i64 0] 44))
  have T0 := Lib.hid (Below.refl ((w.alloc (.cells #[.slice a n cap] 26)).alloc (.cells #[.int .i64 0, .int .i64 0, .int .i64 0] 44)).heap.size ((w.alloc (.cells #[.slice a n cap] 26)).alloc (.cells #[.int .i64 0, .int .i64 0, .int .i64 0] 44)))
  clear hi hn
  obtain ⟨p, EP⟩ : ∃ p, Hid (l.getD 0 1 = p) := ⟨_, Lib.hid rfl⟩
  obtain ⟨q, EQ⟩ : ∃ q, Hid (l.getD 1 1 = q) := ⟨_, Lib.hid rfl⟩
  obtain ⟨r, ER⟩ : ∃ r, Hid (l.getD 2 1 = r) := ⟨_, Lib.hid rfl⟩
  rw [neB_full, Bool.and_eq_true] at hs
  have HS := Lib.hid hs.1
  have HS2 := Lib.hid hs.2
  rw [EP.out, EQ.out, ER.out]
  clear hs
  go_enter Tryz.func28, Tryz.ntmps28
  go_wp2_with (first
    | (go_at_call 61; have hx_ := T1; clear hx_; refine (iFS_yes _ _ _ _ _ _ _ HN.out hm (HI.out.below rfl T1.out) HS2.out).mono ?_; rw [EP.out, EQ.out, ER.out]; rintro e w2 ⟨rfl, hb2⟩; have S2 := Lib.hid (T1.out.trans (hb2.mono T1.out.size)); have T2 := Lib.hid (S2.out.alloc S2.out.size (.cells #[.int .i64 p, .int .i64 q, .int .i64 r] 44)); have cs2 := keepC S2.out (by simp <;> omega) C1; have c2 := keepC T2.out (by simp <;> omega) C1; have R8 := Lib.hid (heap_alloc_new w2 (.cells #[.int .i64 p, .int .i64 q, .int .i64 r] 44)); obtain ⟨x20, x21, x22, x2f0, x2f1, x2f2⟩ := trip_cell (keepH T2.out (by simp <;> omega) R1.out); obtain ⟨y0, y1, y2, yf0, yf1, yf2⟩ := trip_cell (keepH (hb2.alloc hb2.size (.cells #[.int .i64 p, .int .i64 q, .int .i64 r] 44)) (by simp <;> omega) R7.out))
    | (go_at_call 61; refine (iFS_yes _ _ _ _ _ _ _ HN.out hm (HI.out.below rfl T0.out) HS.out).mono ?_; rw [EP.out, EQ.out, ER.out]; rintro e w1 ⟨rfl, hb1⟩; have S1 := Lib.hid (T0.out.trans (hb1.mono T0.out.size)); have T1 := Lib.hid (S1.out.alloc S1.out.size (.cells #[.int .i64 p, .int .i64 q, .int .i64 r] 44)); have cs1 := keepC S1.out (by simp <;> omega) C1; have c1 := keepC T1.out (by simp <;> omega) C1; have R7 := Lib.hid (heap_alloc_new w1 (.cells #[.int .i64 p, .int .i64 q, .int .i64 r] 44)); obtain ⟨x10, x11, x12, x1f0, x1f1, x1f2⟩ := trip_cell (keepH T1.out (by simp <;> omega) R1.out); obtain ⟨z0, z1, z2, zf0, zf1, zf2⟩ := trip_cell R7.out))
  refine bodyPost_ret (v := .tuple #[tV p q r, .int .u64 s, .int .u64 t, .nilIface]) (by simp [results, Tryz.results28, go_sem, x20, x21, x22]) rfl ⟨rfl, below_set3 (HB.out.trans (T2.out.mono (by simp <;> omega))) (by omega)⟩
end Go.Proofs.YtfkleihnafeoeaaGreatDoor

namespace Go.Proofs.YtfkleihnafeoeaaGreatDoor
open Go.RowKit
set_option maxRecDepth 1000000
/-- Both are sets: what is known of them. -/
theorem two_true {l : List Int} {s t : Int} (h : two l s t = true) : grpB l = true ∧ ∃ a b : Nat, s = (a : Int) ∧ t = (b : Int) ∧ a < 2 ^ (prodI l).toNat ∧ b < 2 ^ (prodI l).toNat := by
  unfold two at h
  rw [Bool.and_eq_true] at h
  obtain ⟨hg, a, h1, h2, _⟩ := isS_true h.1
  obtain ⟨_, b, h3, h4, _⟩ := isS_true h.2
  exact ⟨hg, a, b, h1, h3, h2, h4⟩
theorem shG_mov {l : List Int} (hg : grpB l = true) (t x : Nat) : shG (l.getD 0 1) (l.getD 1 1) (l.getD 2 1) t x = movN l t x := (sh_tri hg (x : Int) (bitsN t)).symm
theorem sum_prog {l : List Int} (hg : grpB l = true) {s t : Nat} (hs : s < 2 ^ (prodI l).toNat) (ht : t < 2 ^ (prodI l).toNat) :
    orG (fun x => shG (l.getD 0 1) (l.getD 1 1) (l.getD 2 1) t x) (bitsN s) = sumN l s t := by
  rw [orG_congr _ (fun x => movN l t x) _ (fun x _ => shG_mov hg t x)]
  exact sumN_comm l (grp_pow hg ht) (grp_pow hg hs)
theorem dif_sum (l : List Int) (s t : Int) : sumE l s (ngE l t) = difE l s t := by
  cases ht : isS l t with
  | false =>
    have e : ngE l t = -1 := by unfold ngE; rw [if_neg (by simp [ht])]
    unfold sumE difE two
    rw [e, isS_neg (l := l) (show (-1 : Int) < 0 by decide), ht, Bool.and_false, if_neg (by simp), if_neg (by simp)]
  | true =>
    obtain ⟨hg, t, rfl, htn, _⟩ := isS_true ht
    have e : ngE l (t : Int) = ((ngN l t : Nat) : Int) := by unfold ngE; rw [if_pos ht]; rfl
    unfold sumE difE two
    rw [e, isS_of hg (ngN_lt hg t), ht]; rfl
theorem pow_prog {l : List Int} (hg : grpB l = true) {s : Nat} (hs : s < 2 ^ (prodI l).toNat) (k : Nat) :
    orG (fun x => shG (l.getD 0 1) (l.getD 1 1) (l.getD 2 1) s x) (bitsN (powS l s k)) = powS l s (k + 1) := sum_prog hg (powS_lt hg s k) hs
end Go.Proofs.YtfkleihnafeoeaaGreatDoor

namespace Go.Proofs.YtfkleihnafeoeaaGreatDoor
open Go.RowKit
set_option maxRecDepth 1000000
/-- The library's table and its variable, below block B. -/
def TabE (B : Nat) (w : World) : Prop := TabZ B w ∧ ErrB B w
theorem TabE.on {B : Nat} {w w1 : World} (h : TabE B w) (hb : Below B w w1) : TabE B w1 := ⟨h.1.on hb, h.2.on hb⟩
theorem iSumN {l : List Int} (hg : grpB l = true) (w : World) (s t : Nat) (hs : s < 2 ^ (prodI l).toNat) (ht : t < 2 ^ (prodI l).toNat) (B : Nat) (hB0 : B ≤ w.heap.size) (hz : TabZ B w) :
    Calls Tryz.prog 31 #[tV (l.getD 0 1) (l.getD 1 1) (l.getD 2 1), .int .u64 s, .int .u64 t] w fun e w' => e = .returned (.int .u64 (sumN l s t : Nat)) ∧ Below w.heap.size w w' := by
  have HP := prod_pad (grpB_true hg).1
  have h := iSum w _ _ _ s t (tri_grp hg) (by rw [← HP]; exact hs) (by rw [← HP]; exact ht) B hB0 hz
  rw [sum_prog hg hs ht] at h
  exact h
end Go.Proofs.YtfkleihnafeoeaaGreatDoor

namespace Go.Proofs.YtfkleihnafeoeaaGreatDoor
open Go.RowKit
set_option maxRecDepth 1000000
/-- The first element of a set is how many bits below it are empty. -/
theorem head_ctz {c : Nat} (hc : c < 2 ^ 24) (h0 : c ≠ 0) : (bitsN c).head? = some (Lib.ctz 64 c) := by
  have h64 : c < 2 ^ 64 := Nat.lt_of_lt_of_le hc (Nat.pow_le_pow_right (by decide) (by decide))
  obtain ⟨m, hm, hk⟩ := Lib.ctzFrom_spec 64 c (by omega) h64
  have e : Lib.ctz 64 c = Lib.ctzFrom 64 c := by simp [Lib.ctz, h0]
  rw [e]
  obtain ⟨k, hkk⟩ : ∃ k, Lib.ctzFrom 64 c = k := ⟨_, rfl⟩
  rw [hkk] at hm hk ⊢
  have hb : ∀ j, c.testBit j = (decide (j ≥ k) && (2 * m + 1).testBit (j - k)) := fun j => by rw [hm, Nat.testBit_two_pow_mul]
  have hb1 : c.testBit k = true := by
    rw [hb k, Nat.sub_self, decide_eq_true (Nat.le_refl k), Bool.true_and, Nat.testBit_zero]
    exact decide_eq_true (by omega)
  have hk24 : k < 24 := by
    rcases Nat.lt_or_ge k 24 with q | q
    · exact q
    · rw [Nat.testBit_lt_two_pow (Nat.lt_of_lt_of_le hc (Nat.pow_le_pow_right (by decide) q))] at hb1
      cases hb1
  unfold bitsN upK
  rw [List.head?_filter, List.find?_range_eq_some]
  refine ⟨hb1, List.mem_range.2 hk24, fun j hj => ?_⟩
  rw [hb j, decide_eq_false (by omega)]
  rfl
theorem com_no {l : List Int} {s t : Int} (h : comO l s t = none) : comE l s t = 0 ∧ comB l s t = false := by
  unfold comE comB
  rw [h]
  exact ⟨rfl, rfl⟩
set_option maxHeartbeats 8000000 in
theorem iCom (w : World) (a : Option Addr) (l : List Int) (n cap : Nat) (s t : Int) (hn : n = l.length) (hm : n ≤ 9223372036854775807) (hi : Ints w a l) (B : Nat) (hB0 : B ≤ w.heap.size) (ht : TabE B w) :
    Calls Tryz.prog 17 #[.agg #[.slice a n cap], .int .i64 s, .int .i64 t] w fun e w' => e = .returned (.tuple #[.int .i64 (comE l s t), .bool (comB l s t)]) ∧ Below w.heap.size w w' := by
  have HTZ := Lib.hid ht.1
  have HER := Lib.hid ht.2
  have HTE := Lib.hid ht
  clear ht
  have HI := Lib.hid (ints_alloc hi (.cells #[.slice a n cap] 26))
  have HN := Lib.hid hn
  have C1 := newC w (.slice a n cap) 26 (n := w.heap.size) rfl
  have HB := Lib.hid (Joins.below_alloc1 w (.cells #[.slice a n cap] 26))
  have T0 := Lib.hid (Below.refl (w.alloc (.cells #[.slice a n cap] 26)).heap.size (w.alloc (.cells #[.slice a n cap] 26)))
  clear hi hn
  cases hs : neB l s t with
  | false =>
    have HS := Lib.hid hs
    obtain ⟨k1, k2⟩ := com_no (com_none hs)
    rw [k1, k2]
    clear hs k1 k2
    go_enter Tryz.func17, Tryz.ntmps17
    go_wp2_with (first
      | (go_at_call 29; refine (iRef_yes _ ex ey B (Nat.le_trans hB0 TA.out.size) (HER.out.on (TA.out.mono hB0))).mono ?_; rintro e w2 ⟨rfl, hb2⟩; have T2 := Lib.hid (TA.out.trans (hb2.mono TA.out.size)))
      | (go_at_call 28; refine (iFSS_no _ _ _ _ _ _ _ HN.out hm (HI.out.below rfl T0.out) HS.out).mono ?_; rintro e w1 ⟨ex, ey, rfl, hb1⟩; have TA := Lib.hid ((HB.out.trans (hb1.mono (by simp))).alloc (Nat.le_trans (by simp) hb1.size) (.cells #[.int .i64 0, .int .i64 0, .int .i64 0] 44))))
    refine bodyPost_ret (v := .tuple #[.int .i64 0, .bool false]) (by simp [results, Tryz.results17, go_sem]) rfl ⟨rfl, T2.out⟩
  | true =>
    have HS := Lib.hid hs
    obtain ⟨hg, u, v, rfl, rfl, hu0, hv0, hul, hvl⟩ := neB_yes hs
    have hcb := com_bits (isS_of hg hul) (by omega) (isS_of hg hvl) (by omega)
    have H1 := Lib.hid (fun (W : World) => iDiff hg W u hul (by omega))
    have H2 := Lib.hid (fun (W : World) => iDiff hg W v hvl (by omega))
    have hA24 : dsN l u < 2 ^ 24 := grp_pow hg (ds_lt l u _)
    have hB24 : dsN l v < 2 ^ 24 := grp_pow hg (ds_lt l v _)
    have hC24 : dsN l u &&& dsN l v < 2 ^ 24 := Nat.lt_of_le_of_lt Nat.and_le_left hA24
    have hand := bits_and_u64_nat (dsN l u) (dsN l v) (by omega) (by omega)
    obtain ⟨p, EP⟩ : ∃ p, Hid (l.getD 0 1 = p) := ⟨_, Lib.hid rfl⟩
    obtain ⟨q, EQ⟩ : ∃ q, Hid (l.getD 1 1 = q) := ⟨_, Lib.hid rfl⟩
    obtain ⟨r, ER⟩ : ∃ r, Hid (l.getD 2 1 = r) := ⟨_, Lib.hid rfl⟩
    rw [EP.out, EQ.out, ER.out] at H1 H2
    obtain ⟨C, hC⟩ : ∃ C, dsN l u &&& dsN l v = C := ⟨_, rfl⟩
    rw [hC] at hcb hC24 hand
    obtain ⟨A, hA⟩ : ∃ C, dsN l u = C := ⟨_, rfl⟩
    obtain ⟨D, hD⟩ : ∃ C, dsN l v = C := ⟨_, rfl⟩
    rw [hA] at H1 hand
    rw [hD] at H2 hand
    have HAND := Lib.hid hand
    by_cases h0 : C = 0
    · subst h0
      obtain ⟨k1, k2⟩ := com_no (show comO l (u : Int) (v : Int) = none by rw [hcb]; rfl)
      rw [k1, k2]
      have hz : (((0 : Nat) : Int) == 0) = true := rfl
      clear hs hcb hg hul hvl hu0 hv0 hA24 hB24 hC24 hC hA hD k1 k2
      go_enter Tryz.func17, Tryz.ntmps17
      go_wp2_with (first
        | (go_at_call 29; refine (iRef_no _).mono ?_; rintro e w2 ⟨rfl, hb2⟩; have T2 := Lib.hid (TA.out.trans (hb2.mono TA.out.size)); have R2 := Lib.hid (keepH hb2 (by simp) RY.out); obtain ⟨z0, z1, z2, _, _, _⟩ := trip_cell R2.out)
        | (go_at_call 28; refine (iFSS_yes _ _ _ _ _ _ _ HN.out hm (HI.out.below rfl T0.out) HS.out).mono ?_; rw [EP.out, EQ.out, ER.out]; rintro e w1 ⟨rfl, hb1⟩; have TA := Lib.hid ((HB.out.trans (hb1.mono (by simp))).alloc (Nat.le_trans (by simp) hb1.size) (.cells #[.int .i64 p, .int .i64 q, .int .i64 r] 44)); have RY := Lib.hid (heap_alloc_new w1 (.cells #[.int .i64 p, .int .i64 q, .int .i64 r] 44)); obtain ⟨y0, y1, y2, _, _, _⟩ := trip_cell RY.out))
      have TD := Lib.hid T2.out.drew
      have hand := HAND.out
      go_region_held3 (fun W => W.cell? ⟨w1.heap.size, 0, none⟩ = some (.int .i64 p) ∧ W.cell? ⟨w1.heap.size, 1, none⟩ = some (.int .i64 q) ∧ W.cell? ⟨w1.heap.size, 2, none⟩ = some (.int .i64 r)) (first | exact ⟨e0, e1, e2⟩ | exact ⟨d0, d1, d2⟩ | exact ⟨z0, z1, z2⟩)
        (first
        | (go_at_call 39; have hx_ := T3; clear hx_; refine (H2.out _).mono ?_; rintro e w4 ⟨rfl, hb4⟩; have T4 := Lib.hid (T3.out.trans (hb4.mono T3.out.size)); have R4 := Lib.hid (keepH hb4 (Array.getElem?_eq_some_iff.1 R3.out).1 R3.out); obtain ⟨e0, e1, e2, _, _, _⟩ := trip_cell R4.out)
        | (go_at_call 39; refine (H1.out _).mono ?_; rintro e w3 ⟨rfl, hb3⟩; have T3 := Lib.hid (TD.out.trans (hb3.mono TD.out.size)); have R3 := Lib.hid (keepH hb3 (Array.getElem?_eq_some_iff.1 R2.out).1 R2.out); obtain ⟨d0, d1, d2, _, _, _⟩ := trip_cell R3.out))
      all_goals go_wp2
      refine bodyPost_ret (v := .tuple #[.int .i64 0, .bool false]) (by simp [results, Tryz.results17, go_sem]) rfl ⟨rfl, T4.out⟩
    · have hh := head_ctz hC24 h0
      obtain ⟨K, hK⟩ : ∃ K, Lib.ctz 64 C = K := ⟨_, rfl⟩
      have HLE := Lib.hid (fun (W : World) h => iLeast W C hC24 h0 B h)
      rw [hK] at hh HLE
      rw [hh] at hcb
      rw [show comE l (u : Int) (v : Int) = (K : Int) by unfold comE; rw [hcb]; rfl, show comB l (u : Int) (v : Int) = true by unfold comB; rw [hcb]; rfl]
      have hz : ((C : Int) == 0) = false := by simp; omega
      clear hs hcb hg hul hvl hu0 hv0 hA24 hB24 hC24 hC hA hD hh hK h0
      go_enter Tryz.func17, Tryz.ntmps17
      go_wp2_with (first
        | (go_at_call 29; refine (iRef_no _).mono ?_; rintro e w2 ⟨rfl, hb2⟩; have T2 := Lib.hid (TA.out.trans (hb2.mono TA.out.size)); have R2 := Lib.hid (keepH hb2 (by simp) RY.out); obtain ⟨z0, z1, z2, _, _, _⟩ := trip_cell R2.out)
        | (go_at_call 28; refine (iFSS_yes _ _ _ _ _ _ _ HN.out hm (HI.out.below rfl T0.out) HS.out).mono ?_; rw [EP.out, EQ.out, ER.out]; rintro e w1 ⟨rfl, hb1⟩; have TA := Lib.hid ((HB.out.trans (hb1.mono (by simp))).alloc (Nat.le_trans (by simp) hb1.size) (.cells #[.int .i64 p, .int .i64 q, .int .i64 r] 44)); have RY := Lib.hid (heap_alloc_new w1 (.cells #[.int .i64 p, .int .i64 q, .int .i64 r] 44)); obtain ⟨y0, y1, y2, _, _, _⟩ := trip_cell RY.out))
      have TD := Lib.hid T2.out.drew
      have hand := HAND.out
      go_region_held3 (fun W => W.cell? ⟨w1.heap.size, 0, none⟩ = some (.int .i64 p) ∧ W.cell? ⟨w1.heap.size, 1, none⟩ = some (.int .i64 q) ∧ W.cell? ⟨w1.heap.size, 2, none⟩ = some (.int .i64 r)) (first | exact ⟨e0, e1, e2⟩ | exact ⟨d0, d1, d2⟩ | exact ⟨z0, z1, z2⟩)
        (first
        | (go_at_call 39; have hx_ := T3; clear hx_; refine (H2.out _).mono ?_; rintro e w4 ⟨rfl, hb4⟩; have T4 := Lib.hid (T3.out.trans (hb4.mono T3.out.size)); have R4 := Lib.hid (keepH hb4 (Array.getElem?_eq_some_iff.1 R3.out).1 R3.out); obtain ⟨e0, e1, e2, _, _, _⟩ := trip_cell R4.out)
        | (go_at_call 39; refine (H1.out _).mono ?_; rintro e w3 ⟨rfl, hb3⟩; have T3 := Lib.hid (TD.out.trans (hb3.mono TD.out.size)); have R3 := Lib.hid (keepH hb3 (Array.getElem?_eq_some_iff.1 R2.out).1 R2.out); obtain ⟨d0, d1, d2, _, _, _⟩ := trip_cell R3.out))
      all_goals go_wp2_with (go_at_call 46; refine (HLE.out _ (HTZ.out.on (T4.out.mono hB0))).mono ?_; rintro e w5 ⟨rfl, rfl⟩)
      refine bodyPost_ret (v := .tuple #[.int .i64 (K : Nat), .bool true]) (by simp [results, Tryz.results17, go_sem]) rfl ⟨rfl, T4.out⟩
set_option maxHeartbeats 16000000 in
theorem iVos (w : World) (a : Option Addr) (l : List Int) (n cap : Nat) (s t : Int) (hn : n = l.length) (hm : n ≤ 9223372036854775807) (hi : Ints w a l) (B : Nat) (hB0 : B ≤ w.heap.size) (ht : TabE B w) :
    Calls Tryz.prog 6 #[.agg #[.slice a n cap], .int .i64 s, .int .i64 t] w fun e w' => e = .returned (.string (vosT (vosK l s t))) ∧ Below w.heap.size w w' := by
  have HTZ := Lib.hid ht.1
  have HER := Lib.hid ht.2
  have HTE := Lib.hid ht
  clear ht
  have HI0 := Lib.hid hi
  have HI := Lib.hid (ints_alloc hi (.cells #[.slice a n cap] 26))
  have HN := Lib.hid hn
  have C1 := newC w (.slice a n cap) 26 (n := w.heap.size) rfl
  have HB := Lib.hid (Joins.below_alloc1 w (.cells #[.slice a n cap] 26))
  have T0 := Lib.hid (Below.refl (w.alloc (.cells #[.slice a n cap] 26)).heap.size (w.alloc (.cells #[.slice a n cap] 26)))
  clear hi hn
  cases hne : neB l s t with
  | false =>
    have HS := Lib.hid hne
    rw [show vosK l s t = 0 from vos_no (by rw [hne]; simp)]
    clear hne
    go_enter Tryz.func6, Tryz.ntmps6
    go_wp2_with (first
      | (go_at_call 29; refine (iRef_yes _ ex ey B (Nat.le_trans hB0 TA.out.size) (HER.out.on (TA.out.mono hB0))).mono ?_; rintro e w2 ⟨rfl, hb2⟩; have T2 := Lib.hid (TA.out.trans (hb2.mono TA.out.size)))
      | (go_at_call 28; refine (iFSS_no _ _ _ _ _ _ _ HN.out hm (HI.out.below rfl T0.out) HS.out).mono ?_; rintro e w1 ⟨ex, ey, rfl, hb1⟩; have TA := Lib.hid ((HB.out.trans (hb1.mono (by simp))).alloc (Nat.le_trans (by simp) hb1.size) (.cells #[.int .i64 0, .int .i64 0, .int .i64 0] 44))))
    go_ret
    exact ⟨rfl, T2.out⟩
  | true =>
    have HS := Lib.hid hne
    obtain ⟨hg, u, v, rfl, rfl, hu0, hv0, hul, hvl⟩ := neB_yes hne
    obtain ⟨p, EP⟩ : ∃ p, Hid (l.getD 0 1 = p) := ⟨_, Lib.hid rfl⟩
    obtain ⟨q, EQ⟩ : ∃ q, Hid (l.getD 1 1 = q) := ⟨_, Lib.hid rfl⟩
    obtain ⟨r, ER⟩ : ∃ r, Hid (l.getD 2 1 = r) := ⟨_, Lib.hid rfl⟩
    have IW := Lib.hid (fun (W : World) (h : Below w.heap.size w W) => HI0.out.below rfl h)
    cases hpm : prmB l with
    | false =>
      have HPM := Lib.hid hpm
      rw [show vosK l (u : Int) (v : Int) = 0 from vos_no (by rw [hpm]; rfl)]
      clear hpm hne hg hul hvl hu0 hv0
      go_enter Tryz.func6, Tryz.ntmps6
      go_wp2_with (first
        | (go_at_call 25; have hx_ := K2; clear hx_; refine (iPrm _ _ _ _ _ HN.out hm (IW.out _ T2.out)).mono ?_; rw [HPM.out]; rintro e w3 ⟨rfl, hb3⟩; have T3 := Lib.hid (T2.out.trans (hb3.mono T2.out.size)); have R3 := Lib.hid (keepH hb3 (Array.getElem?_eq_some_iff.1 R2.out).1 R2.out); obtain ⟨x30, x31, x32, _, _, _⟩ := trip_cell R3.out; have c3 := keepC hb3 (World.block_lt_of_cell? _ _ c2) c2; have K3 := True.intro)
        | (have hx_ := K1; clear hx_; go_at_call 29; refine (iRef_no _).mono ?_; rintro e w2 ⟨rfl, hb2⟩; have T2 := Lib.hid (TA.out.trans (hb2.mono TA.out.size)); have R2 := Lib.hid (keepH hb2 (by simp) RY.out); obtain ⟨z0, z1, z2, _, _, _⟩ := trip_cell R2.out; have c2 := keepC hb2 (World.block_lt_of_cell? _ _ c1) c1; have K2 := True.intro)
        | (go_at_call 28; refine (iFSS_yes _ _ _ _ _ _ _ HN.out hm (HI.out.below rfl T0.out) HS.out).mono ?_; rw [EP.out, EQ.out, ER.out]; rintro e w1 ⟨rfl, hb1⟩; have TA := Lib.hid ((HB.out.trans (hb1.mono (by simp))).alloc (Nat.le_trans (by simp) hb1.size) (.cells #[.int .i64 p, .int .i64 q, .int .i64 r] 44)); have RY := Lib.hid (heap_alloc_new w1 (.cells #[.int .i64 p, .int .i64 q, .int .i64 r] 44)); obtain ⟨y0, y1, y2, _, _, _⟩ := trip_cell RY.out; have c1 := keepC (hb1.alloc hb1.size (.cells #[.int .i64 p, .int .i64 q, .int .i64 r] 44)) (by simp) C1; have K1 := True.intro))
      go_ret
      exact ⟨rfl, T3.out⟩
    | true =>
      have HPM := Lib.hid hpm
      have hK := vos_nat (show (prmB l && neB l (u : Int) (v : Int)) = true by rw [hpm, hne]; rfl)
      have hp := (ords_grp hg).prod
      have HPP := prod_pad (grpB_true hg).1
      obtain ⟨P, hPe⟩ : ∃ P : Nat, prodI l = (P : Int) := ⟨(prodI l).toNat, by omega⟩
      have hP1 : 1 ≤ P := by omega
      have hP24 : P ≤ 24 := by omega
      rw [hPe] at hK
      have hu24 := grp_pow hg hul
      have hv24 := grp_pow hg hvl
      have hx24 := grp_pow hg (sumN_lt hg u v)
      have hfl := full_len hg (sumN_lt hg u v)
      rw [hPe] at hfl
      have HSU := Lib.hid (fun (W : World) h1 h2 => iSumN hg W u v hul hvl B h1 h2)
      have HFU := Lib.hid (fun (W : World) => iFull W _ _ _ (((2 ^ (prodI l).toNat : Nat) : Int) - 1) (tri_grp hg) (by rw [← HPP]))
      have HPR := Lib.hid (fun (W : World) => iProduct W _ _ _ (tri_grp hg))
      rw [← HPP, hPe] at HPR
      rw [EP.out, EQ.out, ER.out] at HSU HFU HPR
      obtain ⟨F, hF⟩ : ∃ F, ((2 ^ (prodI l).toNat : Nat) : Int) - 1 = F := ⟨_, rfl⟩
      rw [hPe] at hF
      rw [hPe] at HFU
      rw [hF] at hfl HFU
      obtain ⟨X, hX⟩ : ∃ X, sumN l u v = X := ⟨_, rfl⟩
      rw [hX] at hK hx24 hfl HSU
      have q1 : (bitsN u).length ≤ 24 := upK_len u 24
      have q2 : (bitsN v).length ≤ 24 := upK_len v 24
      have q3 : (bitsN X).length ≤ 24 := upK_len X 24
      have D1 := Lib.hid (fun (W : World) => iCnt W u hu24)
      have D2 := Lib.hid (fun (W : World) => iCnt W v hv24)
      have D3 := Lib.hid (fun (W : World) => iCnt W X hx24)
      obtain ⟨L1, hL1⟩ : ∃ L, (bitsN u).length = L := ⟨_, rfl⟩
      obtain ⟨L2, hL2⟩ : ∃ L, (bitsN v).length = L := ⟨_, rfl⟩
      obtain ⟨L3, hL3⟩ : ∃ L, (bitsN X).length = L := ⟨_, rfl⟩
      rw [hL1] at D1 q1 hK
      rw [hL2] at D2 q2 hK
      rw [hL3] at D3 q3 hK hfl
      obtain ⟨CE, hCE⟩ : ∃ z, comE l (u : Int) (v : Int) = z := ⟨_, rfl⟩
      obtain ⟨CB, hCB⟩ : ∃ z, comB l (u : Int) (v : Int) = z := ⟨_, rfl⟩
      have HCM := Lib.hid (And.intro hCE hCB)
      rw [hCB] at hK
      obtain ⟨B1, hB1⟩ : ∃ b, ((L3 : Int) == (P : Int)) = b := ⟨_, rfl⟩
      obtain ⟨B2, hB2⟩ : ∃ b, decide ((P : Int) ≤ (L1 : Int) + (L2 : Int) - 1) = b := ⟨_, rfl⟩
      obtain ⟨B3, hB3⟩ : ∃ b, ((L3 : Int) == (L1 : Int) + (L2 : Int) - 1) = b := ⟨_, rfl⟩
      obtain ⟨B4, hB4⟩ : ∃ b, ((L1 : Int) == 1) = b := ⟨_, rfl⟩
      obtain ⟨B5, hB5⟩ : ∃ b, ((L2 : Int) == 1) = b := ⟨_, rfl⟩
      obtain ⟨B7, hB7⟩ : ∃ b, ((L1 : Int) + (L2 : Int) - 1 == (P : Int) - 1) = b := ⟨_, rfl⟩
      rw [hB1] at hfl
      rw [hB1, hB2, hB3, hB4, hB5, hB7] at hK
      have hB3n : ((L3 : Int) != (L1 : Int) + (L2 : Int) - 1) = !B3 := by rw [← hB3]; rfl
      have HKK := Lib.hid hK
      clear hne hpm hK hg hul hvl hu0 hv0 hp HPP hPe hF hu24 hv24 hx24 hX hL1 hL2 hL3 hCE hCB hB1
      cases B1 with
      | true =>
        cases B2 with
        | true =>
          go_enter Tryz.func6, Tryz.ntmps6
          go_wp2_with (first
            | (go_at_call 33; have hx_ := K8; clear hx_; refine (HPR.out _).mono ?_; rintro e w7 ⟨rfl, hb7⟩; have T7 := Lib.hid (T6.out.trans (hb7.mono T6.out.size)); have R7 := Lib.hid (keepH hb7 (Array.getElem?_eq_some_iff.1 R6.out).1 R6.out); obtain ⟨x70, x71, x72, _, _, _⟩ := trip_cell R7.out; have c7 := keepC hb7 (World.block_lt_of_cell? _ _ c6) c6; have K9 := True.intro)
            | (go_at_call 32; have hx_ := K7; clear hx_; refine (HFU.out _).mono ?_; rintro e w6 ⟨rfl, hb6⟩; have T6 := Lib.hid (T5.out.trans (hb6.mono T5.out.size)); have R6 := Lib.hid (keepH hb6 (Array.getElem?_eq_some_iff.1 R5.out).1 R5.out); obtain ⟨x60, x61, x62, _, _, _⟩ := trip_cell R6.out; have c6 := keepC hb6 (World.block_lt_of_cell? _ _ c5) c5; have K8 := True.intro)
            | (go_at_call 17; have hx_ := K6; clear hx_; refine (iCom _ _ _ _ _ _ _ HN.out hm (IW.out _ T4.out) B (Nat.le_trans hB0 T4.out.size) (HTE.out.on (T4.out.mono hB0))).mono ?_; rw [HCM.out.1, HCM.out.2]; rintro e w5 ⟨rfl, hb5⟩; have T5 := Lib.hid (T4.out.trans (hb5.mono T4.out.size)); have R5 := Lib.hid (keepH hb5 (Array.getElem?_eq_some_iff.1 R4.out).1 R4.out); obtain ⟨x50, x51, x52, _, _, _⟩ := trip_cell R5.out; have c5 := keepC hb5 (World.block_lt_of_cell? _ _ c4) c4; have K7 := True.intro)
            | (go_at_call 31; have hx_ := K5; clear hx_; refine (HSU.out _ (Nat.le_trans hB0 T3.out.size) (HTZ.out.on (T3.out.mono hB0))).mono ?_; rintro e w4 ⟨rfl, hb4⟩; have T4 := Lib.hid (T3.out.trans (hb4.mono T3.out.size)); have R4 := Lib.hid (keepH hb4 (Array.getElem?_eq_some_iff.1 R3.out).1 R3.out); obtain ⟨x40, x41, x42, _, _, _⟩ := trip_cell R4.out; have c4 := keepC hb4 (World.block_lt_of_cell? _ _ c3) c3; have K6 := True.intro)
            | (go_at_call 30; have hx_ := K4; clear hx_; refine (D2.out _).mono ?_; rintro e w_ ⟨rfl, rfl⟩; have K5 := True.intro)
            | (go_at_call 30; have hx_ := K3; clear hx_; refine (D1.out _).mono ?_; rintro e w_ ⟨rfl, rfl⟩; have K4 := True.intro)
            | (go_at_call 25; have hx_ := K2; clear hx_; refine (iPrm _ _ _ _ _ HN.out hm (IW.out _ T2.out)).mono ?_; rw [HPM.out]; rintro e w3 ⟨rfl, hb3⟩; have T3 := Lib.hid (T2.out.trans (hb3.mono T2.out.size)); have R3 := Lib.hid (keepH hb3 (Array.getElem?_eq_some_iff.1 R2.out).1 R2.out); obtain ⟨x30, x31, x32, _, _, _⟩ := trip_cell R3.out; have c3 := keepC hb3 (World.block_lt_of_cell? _ _ c2) c2; have K3 := True.intro)
            | (have hx_ := K1; clear hx_; go_at_call 29; refine (iRef_no _).mono ?_; rintro e w2 ⟨rfl, hb2⟩; have T2 := Lib.hid (TA.out.trans (hb2.mono TA.out.size)); have R2 := Lib.hid (keepH hb2 (by simp) RY.out); obtain ⟨z0, z1, z2, _, _, _⟩ := trip_cell R2.out; have c2 := keepC hb2 (World.block_lt_of_cell? _ _ c1) c1; have K2 := True.intro)
            | (go_at_call 28; refine (iFSS_yes _ _ _ _ _ _ _ HN.out hm (HI.out.below rfl T0.out) HS.out).mono ?_; rw [EP.out, EQ.out, ER.out]; rintro e w1 ⟨rfl, hb1⟩; have TA := Lib.hid ((HB.out.trans (hb1.mono (by simp))).alloc (Nat.le_trans (by simp) hb1.size) (.cells #[.int .i64 p, .int .i64 q, .int .i64 r] 44)); have RY := Lib.hid (heap_alloc_new w1 (.cells #[.int .i64 p, .int .i64 q, .int .i64 r] 44)); obtain ⟨y0, y1, y2, _, _, _⟩ := trip_cell RY.out; have c1 := keepC (hb1.alloc hb1.size (.cells #[.int .i64 p, .int .i64 q, .int .i64 r] 44)) (by simp) C1; have K1 := True.intro))
          go_ret
          exact ⟨by first | rfl | (rw [HKK.out]; rfl), T7.out⟩
        | false =>
          cases B3 with
          | false =>
            rw [Bool.not_false] at hB3n
            go_enter Tryz.func6, Tryz.ntmps6
            go_wp2_with (first
              | (go_at_call 30; have hx_ := K9; clear hx_; refine (D3.out _).mono ?_; rintro e w_ ⟨rfl, rfl⟩; have K10 := True.intro)
              | (go_at_call 33; have hx_ := K8; clear hx_; refine (HPR.out _).mono ?_; rintro e w7 ⟨rfl, hb7⟩; have T7 := Lib.hid (T6.out.trans (hb7.mono T6.out.size)); have R7 := Lib.hid (keepH hb7 (Array.getElem?_eq_some_iff.1 R6.out).1 R6.out); obtain ⟨x70, x71, x72, _, _, _⟩ := trip_cell R7.out; have c7 := keepC hb7 (World.block_lt_of_cell? _ _ c6) c6; have K9 := True.intro)
              | (go_at_call 32; have hx_ := K7; clear hx_; refine (HFU.out _).mono ?_; rintro e w6 ⟨rfl, hb6⟩; have T6 := Lib.hid (T5.out.trans (hb6.mono T5.out.size)); have R6 := Lib.hid (keepH hb6 (Array.getElem?_eq_some_iff.1 R5.out).1 R5.out); obtain ⟨x60, x61, x62, _, _, _⟩ := trip_cell R6.out; have c6 := keepC hb6 (World.block_lt_of_cell? _ _ c5) c5; have K8 := True.intro)
              | (go_at_call 17; have hx_ := K6; clear hx_; refine (iCom _ _ _ _ _ _ _ HN.out hm (IW.out _ T4.out) B (Nat.le_trans hB0 T4.out.size) (HTE.out.on (T4.out.mono hB0))).mono ?_; rw [HCM.out.1, HCM.out.2]; rintro e w5 ⟨rfl, hb5⟩; have T5 := Lib.hid (T4.out.trans (hb5.mono T4.out.size)); have R5 := Lib.hid (keepH hb5 (Array.getElem?_eq_some_iff.1 R4.out).1 R4.out); obtain ⟨x50, x51, x52, _, _, _⟩ := trip_cell R5.out; have c5 := keepC hb5 (World.block_lt_of_cell? _ _ c4) c4; have K7 := True.intro)
              | (go_at_call 31; have hx_ := K5; clear hx_; refine (HSU.out _ (Nat.le_trans hB0 T3.out.size) (HTZ.out.on (T3.out.mono hB0))).mono ?_; rintro e w4 ⟨rfl, hb4⟩; have T4 := Lib.hid (T3.out.trans (hb4.mono T3.out.size)); have R4 := Lib.hid (keepH hb4 (Array.getElem?_eq_some_iff.1 R3.out).1 R3.out); obtain ⟨x40, x41, x42, _, _, _⟩ := trip_cell R4.out; have c4 := keepC hb4 (World.block_lt_of_cell? _ _ c3) c3; have K6 := True.intro)
              | (go_at_call 30; have hx_ := K4; clear hx_; refine (D2.out _).mono ?_; rintro e w_ ⟨rfl, rfl⟩; have K5 := True.intro)
              | (go_at_call 30; have hx_ := K3; clear hx_; refine (D1.out _).mono ?_; rintro e w_ ⟨rfl, rfl⟩; have K4 := True.intro)
              | (go_at_call 25; have hx_ := K2; clear hx_; refine (iPrm _ _ _ _ _ HN.out hm (IW.out _ T2.out)).mono ?_; rw [HPM.out]; rintro e w3 ⟨rfl, hb3⟩; have T3 := Lib.hid (T2.out.trans (hb3.mono T2.out.size)); have R3 := Lib.hid (keepH hb3 (Array.getElem?_eq_some_iff.1 R2.out).1 R2.out); obtain ⟨x30, x31, x32, _, _, _⟩ := trip_cell R3.out; have c3 := keepC hb3 (World.block_lt_of_cell? _ _ c2) c2; have K3 := True.intro)
              | (have hx_ := K1; clear hx_; go_at_call 29; refine (iRef_no _).mono ?_; rintro e w2 ⟨rfl, hb2⟩; have T2 := Lib.hid (TA.out.trans (hb2.mono TA.out.size)); have R2 := Lib.hid (keepH hb2 (by simp) RY.out); obtain ⟨z0, z1, z2, _, _, _⟩ := trip_cell R2.out; have c2 := keepC hb2 (World.block_lt_of_cell? _ _ c1) c1; have K2 := True.intro)
              | (go_at_call 28; refine (iFSS_yes _ _ _ _ _ _ _ HN.out hm (HI.out.below rfl T0.out) HS.out).mono ?_; rw [EP.out, EQ.out, ER.out]; rintro e w1 ⟨rfl, hb1⟩; have TA := Lib.hid ((HB.out.trans (hb1.mono (by simp))).alloc (Nat.le_trans (by simp) hb1.size) (.cells #[.int .i64 p, .int .i64 q, .int .i64 r] 44)); have RY := Lib.hid (heap_alloc_new w1 (.cells #[.int .i64 p, .int .i64 q, .int .i64 r] 44)); obtain ⟨y0, y1, y2, _, _, _⟩ := trip_cell RY.out; have c1 := keepC (hb1.alloc hb1.size (.cells #[.int .i64 p, .int .i64 q, .int .i64 r] 44)) (by simp) C1; have K1 := True.intro))
            go_ret
            exact ⟨by first | rfl | (rw [HKK.out]; rfl), T7.out⟩
          | true =>
            rw [Bool.not_true] at hB3n
            cases B4 with
            | true =>
              go_enter Tryz.func6, Tryz.ntmps6
              go_wp2_with (first
                | (go_at_call 30; have hx_ := K10; clear hx_; refine (D1.out _).mono ?_; rintro e w_ ⟨rfl, rfl⟩; have K11 := True.intro)
                | (go_at_call 30; have hx_ := K9; clear hx_; refine (D3.out _).mono ?_; rintro e w_ ⟨rfl, rfl⟩; have K10 := True.intro)
                | (go_at_call 33; have hx_ := K8; clear hx_; refine (HPR.out _).mono ?_; rintro e w7 ⟨rfl, hb7⟩; have T7 := Lib.hid (T6.out.trans (hb7.mono T6.out.size)); have R7 := Lib.hid (keepH hb7 (Array.getElem?_eq_some_iff.1 R6.out).1 R6.out); obtain ⟨x70, x71, x72, _, _, _⟩ := trip_cell R7.out; have c7 := keepC hb7 (World.block_lt_of_cell? _ _ c6) c6; have K9 := True.intro)
                | (go_at_call 32; have hx_ := K7; clear hx_; refine (HFU.out _).mono ?_; rintro e w6 ⟨rfl, hb6⟩; have T6 := Lib.hid (T5.out.trans (hb6.mono T5.out.size)); have R6 := Lib.hid (keepH hb6 (Array.getElem?_eq_some_iff.1 R5.out).1 R5.out); obtain ⟨x60, x61, x62, _, _, _⟩ := trip_cell R6.out; have c6 := keepC hb6 (World.block_lt_of_cell? _ _ c5) c5; have K8 := True.intro)
                | (go_at_call 17; have hx_ := K6; clear hx_; refine (iCom _ _ _ _ _ _ _ HN.out hm (IW.out _ T4.out) B (Nat.le_trans hB0 T4.out.size) (HTE.out.on (T4.out.mono hB0))).mono ?_; rw [HCM.out.1, HCM.out.2]; rintro e w5 ⟨rfl, hb5⟩; have T5 := Lib.hid (T4.out.trans (hb5.mono T4.out.size)); have R5 := Lib.hid (keepH hb5 (Array.getElem?_eq_some_iff.1 R4.out).1 R4.out); obtain ⟨x50, x51, x52, _, _, _⟩ := trip_cell R5.out; have c5 := keepC hb5 (World.block_lt_of_cell? _ _ c4) c4; have K7 := True.intro)
                | (go_at_call 31; have hx_ := K5; clear hx_; refine (HSU.out _ (Nat.le_trans hB0 T3.out.size) (HTZ.out.on (T3.out.mono hB0))).mono ?_; rintro e w4 ⟨rfl, hb4⟩; have T4 := Lib.hid (T3.out.trans (hb4.mono T3.out.size)); have R4 := Lib.hid (keepH hb4 (Array.getElem?_eq_some_iff.1 R3.out).1 R3.out); obtain ⟨x40, x41, x42, _, _, _⟩ := trip_cell R4.out; have c4 := keepC hb4 (World.block_lt_of_cell? _ _ c3) c3; have K6 := True.intro)
                | (go_at_call 30; have hx_ := K4; clear hx_; refine (D2.out _).mono ?_; rintro e w_ ⟨rfl, rfl⟩; have K5 := True.intro)
                | (go_at_call 30; have hx_ := K3; clear hx_; refine (D1.out _).mono ?_; rintro e w_ ⟨rfl, rfl⟩; have K4 := True.intro)
                | (go_at_call 25; have hx_ := K2; clear hx_; refine (iPrm _ _ _ _ _ HN.out hm (IW.out _ T2.out)).mono ?_; rw [HPM.out]; rintro e w3 ⟨rfl, hb3⟩; have T3 := Lib.hid (T2.out.trans (hb3.mono T2.out.size)); have R3 := Lib.hid (keepH hb3 (Array.getElem?_eq_some_iff.1 R2.out).1 R2.out); obtain ⟨x30, x31, x32, _, _, _⟩ := trip_cell R3.out; have c3 := keepC hb3 (World.block_lt_of_cell? _ _ c2) c2; have K3 := True.intro)
                | (have hx_ := K1; clear hx_; go_at_call 29; refine (iRef_no _).mono ?_; rintro e w2 ⟨rfl, hb2⟩; have T2 := Lib.hid (TA.out.trans (hb2.mono TA.out.size)); have R2 := Lib.hid (keepH hb2 (by simp) RY.out); obtain ⟨z0, z1, z2, _, _, _⟩ := trip_cell R2.out; have c2 := keepC hb2 (World.block_lt_of_cell? _ _ c1) c1; have K2 := True.intro)
                | (go_at_call 28; refine (iFSS_yes _ _ _ _ _ _ _ HN.out hm (HI.out.below rfl T0.out) HS.out).mono ?_; rw [EP.out, EQ.out, ER.out]; rintro e w1 ⟨rfl, hb1⟩; have TA := Lib.hid ((HB.out.trans (hb1.mono (by simp))).alloc (Nat.le_trans (by simp) hb1.size) (.cells #[.int .i64 p, .int .i64 q, .int .i64 r] 44)); have RY := Lib.hid (heap_alloc_new w1 (.cells #[.int .i64 p, .int .i64 q, .int .i64 r] 44)); obtain ⟨y0, y1, y2, _, _, _⟩ := trip_cell RY.out; have c1 := keepC (hb1.alloc hb1.size (.cells #[.int .i64 p, .int .i64 q, .int .i64 r] 44)) (by simp) C1; have K1 := True.intro))
              go_ret
              exact ⟨by first | rfl | (rw [HKK.out]; rfl), T7.out⟩
            | false =>
              cases B5 with
              | true =>
                go_enter Tryz.func6, Tryz.ntmps6
                go_wp2_with (first
                  | (go_at_call 30; have hx_ := K11; clear hx_; refine (D2.out _).mono ?_; rintro e w_ ⟨rfl, rfl⟩; have K12 := True.intro)
                  | (go_at_call 30; have hx_ := K10; clear hx_; refine (D1.out _).mono ?_; rintro e w_ ⟨rfl, rfl⟩; have K11 := True.intro)
                  | (go_at_call 30; have hx_ := K9; clear hx_; refine (D3.out _).mono ?_; rintro e w_ ⟨rfl, rfl⟩; have K10 := True.intro)
                  | (go_at_call 33; have hx_ := K8; clear hx_; refine (HPR.out _).mono ?_; rintro e w7 ⟨rfl, hb7⟩; have T7 := Lib.hid (T6.out.trans (hb7.mono T6.out.size)); have R7 := Lib.hid (keepH hb7 (Array.getElem?_eq_some_iff.1 R6.out).1 R6.out); obtain ⟨x70, x71, x72, _, _, _⟩ := trip_cell R7.out; have c7 := keepC hb7 (World.block_lt_of_cell? _ _ c6) c6; have K9 := True.intro)
                  | (go_at_call 32; have hx_ := K7; clear hx_; refine (HFU.out _).mono ?_; rintro e w6 ⟨rfl, hb6⟩; have T6 := Lib.hid (T5.out.trans (hb6.mono T5.out.size)); have R6 := Lib.hid (keepH hb6 (Array.getElem?_eq_some_iff.1 R5.out).1 R5.out); obtain ⟨x60, x61, x62, _, _, _⟩ := trip_cell R6.out; have c6 := keepC hb6 (World.block_lt_of_cell? _ _ c5) c5; have K8 := True.intro)
                  | (go_at_call 17; have hx_ := K6; clear hx_; refine (iCom _ _ _ _ _ _ _ HN.out hm (IW.out _ T4.out) B (Nat.le_trans hB0 T4.out.size) (HTE.out.on (T4.out.mono hB0))).mono ?_; rw [HCM.out.1, HCM.out.2]; rintro e w5 ⟨rfl, hb5⟩; have T5 := Lib.hid (T4.out.trans (hb5.mono T4.out.size)); have R5 := Lib.hid (keepH hb5 (Array.getElem?_eq_some_iff.1 R4.out).1 R4.out); obtain ⟨x50, x51, x52, _, _, _⟩ := trip_cell R5.out; have c5 := keepC hb5 (World.block_lt_of_cell? _ _ c4) c4; have K7 := True.intro)
                  | (go_at_call 31; have hx_ := K5; clear hx_; refine (HSU.out _ (Nat.le_trans hB0 T3.out.size) (HTZ.out.on (T3.out.mono hB0))).mono ?_; rintro e w4 ⟨rfl, hb4⟩; have T4 := Lib.hid (T3.out.trans (hb4.mono T3.out.size)); have R4 := Lib.hid (keepH hb4 (Array.getElem?_eq_some_iff.1 R3.out).1 R3.out); obtain ⟨x40, x41, x42, _, _, _⟩ := trip_cell R4.out; have c4 := keepC hb4 (World.block_lt_of_cell? _ _ c3) c3; have K6 := True.intro)
                  | (go_at_call 30; have hx_ := K4; clear hx_; refine (D2.out _).mono ?_; rintro e w_ ⟨rfl, rfl⟩; have K5 := True.intro)
                  | (go_at_call 30; have hx_ := K3; clear hx_; refine (D1.out _).mono ?_; rintro e w_ ⟨rfl, rfl⟩; have K4 := True.intro)
                  | (go_at_call 25; have hx_ := K2; clear hx_; refine (iPrm _ _ _ _ _ HN.out hm (IW.out _ T2.out)).mono ?_; rw [HPM.out]; rintro e w3 ⟨rfl, hb3⟩; have T3 := Lib.hid (T2.out.trans (hb3.mono T2.out.size)); have R3 := Lib.hid (keepH hb3 (Array.getElem?_eq_some_iff.1 R2.out).1 R2.out); obtain ⟨x30, x31, x32, _, _, _⟩ := trip_cell R3.out; have c3 := keepC hb3 (World.block_lt_of_cell? _ _ c2) c2; have K3 := True.intro)
                  | (have hx_ := K1; clear hx_; go_at_call 29; refine (iRef_no _).mono ?_; rintro e w2 ⟨rfl, hb2⟩; have T2 := Lib.hid (TA.out.trans (hb2.mono TA.out.size)); have R2 := Lib.hid (keepH hb2 (by simp) RY.out); obtain ⟨z0, z1, z2, _, _, _⟩ := trip_cell R2.out; have c2 := keepC hb2 (World.block_lt_of_cell? _ _ c1) c1; have K2 := True.intro)
                  | (go_at_call 28; refine (iFSS_yes _ _ _ _ _ _ _ HN.out hm (HI.out.below rfl T0.out) HS.out).mono ?_; rw [EP.out, EQ.out, ER.out]; rintro e w1 ⟨rfl, hb1⟩; have TA := Lib.hid ((HB.out.trans (hb1.mono (by simp))).alloc (Nat.le_trans (by simp) hb1.size) (.cells #[.int .i64 p, .int .i64 q, .int .i64 r] 44)); have RY := Lib.hid (heap_alloc_new w1 (.cells #[.int .i64 p, .int .i64 q, .int .i64 r] 44)); obtain ⟨y0, y1, y2, _, _, _⟩ := trip_cell RY.out; have c1 := keepC (hb1.alloc hb1.size (.cells #[.int .i64 p, .int .i64 q, .int .i64 r] 44)) (by simp) C1; have K1 := True.intro))
                go_ret
                exact ⟨by first | rfl | (rw [HKK.out]; rfl), T7.out⟩
              | false =>
                cases CB with
                | true =>
                  go_enter Tryz.func6, Tryz.ntmps6
                  go_wp2_with (first
                    | (go_at_call 30; have hx_ := K11; clear hx_; refine (D2.out _).mono ?_; rintro e w_ ⟨rfl, rfl⟩; have K12 := True.intro)
                    | (go_at_call 30; have hx_ := K10; clear hx_; refine (D1.out _).mono ?_; rintro e w_ ⟨rfl, rfl⟩; have K11 := True.intro)
                    | (go_at_call 30; have hx_ := K9; clear hx_; refine (D3.out _).mono ?_; rintro e w_ ⟨rfl, rfl⟩; have K10 := True.intro)
                    | (go_at_call 33; have hx_ := K8; clear hx_; refine (HPR.out _).mono ?_; rintro e w7 ⟨rfl, hb7⟩; have T7 := Lib.hid (T6.out.trans (hb7.mono T6.out.size)); have R7 := Lib.hid (keepH hb7 (Array.getElem?_eq_some_iff.1 R6.out).1 R6.out); obtain ⟨x70, x71, x72, _, _, _⟩ := trip_cell R7.out; have c7 := keepC hb7 (World.block_lt_of_cell? _ _ c6) c6; have K9 := True.intro)
                    | (go_at_call 32; have hx_ := K7; clear hx_; refine (HFU.out _).mono ?_; rintro e w6 ⟨rfl, hb6⟩; have T6 := Lib.hid (T5.out.trans (hb6.mono T5.out.size)); have R6 := Lib.hid (keepH hb6 (Array.getElem?_eq_some_iff.1 R5.out).1 R5.out); obtain ⟨x60, x61, x62, _, _, _⟩ := trip_cell R6.out; have c6 := keepC hb6 (World.block_lt_of_cell? _ _ c5) c5; have K8 := True.intro)
                    | (go_at_call 17; have hx_ := K6; clear hx_; refine (iCom _ _ _ _ _ _ _ HN.out hm (IW.out _ T4.out) B (Nat.le_trans hB0 T4.out.size) (HTE.out.on (T4.out.mono hB0))).mono ?_; rw [HCM.out.1, HCM.out.2]; rintro e w5 ⟨rfl, hb5⟩; have T5 := Lib.hid (T4.out.trans (hb5.mono T4.out.size)); have R5 := Lib.hid (keepH hb5 (Array.getElem?_eq_some_iff.1 R4.out).1 R4.out); obtain ⟨x50, x51, x52, _, _, _⟩ := trip_cell R5.out; have c5 := keepC hb5 (World.block_lt_of_cell? _ _ c4) c4; have K7 := True.intro)
                    | (go_at_call 31; have hx_ := K5; clear hx_; refine (HSU.out _ (Nat.le_trans hB0 T3.out.size) (HTZ.out.on (T3.out.mono hB0))).mono ?_; rintro e w4 ⟨rfl, hb4⟩; have T4 := Lib.hid (T3.out.trans (hb4.mono T3.out.size)); have R4 := Lib.hid (keepH hb4 (Array.getElem?_eq_some_iff.1 R3.out).1 R3.out); obtain ⟨x40, x41, x42, _, _, _⟩ := trip_cell R4.out; have c4 := keepC hb4 (World.block_lt_of_cell? _ _ c3) c3; have K6 := True.intro)
                    | (go_at_call 30; have hx_ := K4; clear hx_; refine (D2.out _).mono ?_; rintro e w_ ⟨rfl, rfl⟩; have K5 := True.intro)
                    | (go_at_call 30; have hx_ := K3; clear hx_; refine (D1.out _).mono ?_; rintro e w_ ⟨rfl, rfl⟩; have K4 := True.intro)
                    | (go_at_call 25; have hx_ := K2; clear hx_; refine (iPrm _ _ _ _ _ HN.out hm (IW.out _ T2.out)).mono ?_; rw [HPM.out]; rintro e w3 ⟨rfl, hb3⟩; have T3 := Lib.hid (T2.out.trans (hb3.mono T2.out.size)); have R3 := Lib.hid (keepH hb3 (Array.getElem?_eq_some_iff.1 R2.out).1 R2.out); obtain ⟨x30, x31, x32, _, _, _⟩ := trip_cell R3.out; have c3 := keepC hb3 (World.block_lt_of_cell? _ _ c2) c2; have K3 := True.intro)
                    | (have hx_ := K1; clear hx_; go_at_call 29; refine (iRef_no _).mono ?_; rintro e w2 ⟨rfl, hb2⟩; have T2 := Lib.hid (TA.out.trans (hb2.mono TA.out.size)); have R2 := Lib.hid (keepH hb2 (by simp) RY.out); obtain ⟨z0, z1, z2, _, _, _⟩ := trip_cell R2.out; have c2 := keepC hb2 (World.block_lt_of_cell? _ _ c1) c1; have K2 := True.intro)
                    | (go_at_call 28; refine (iFSS_yes _ _ _ _ _ _ _ HN.out hm (HI.out.below rfl T0.out) HS.out).mono ?_; rw [EP.out, EQ.out, ER.out]; rintro e w1 ⟨rfl, hb1⟩; have TA := Lib.hid ((HB.out.trans (hb1.mono (by simp))).alloc (Nat.le_trans (by simp) hb1.size) (.cells #[.int .i64 p, .int .i64 q, .int .i64 r] 44)); have RY := Lib.hid (heap_alloc_new w1 (.cells #[.int .i64 p, .int .i64 q, .int .i64 r] 44)); obtain ⟨y0, y1, y2, _, _, _⟩ := trip_cell RY.out; have c1 := keepC (hb1.alloc hb1.size (.cells #[.int .i64 p, .int .i64 q, .int .i64 r] 44)) (by simp) C1; have K1 := True.intro))
                  go_ret
                  exact ⟨by first | rfl | (rw [HKK.out]; rfl), T7.out⟩
                | false =>
                  cases B7 with
                  | true =>
                    go_enter Tryz.func6, Tryz.ntmps6
                    go_wp2_with (first
                      | (go_at_call 33; have hx_ := K12; clear hx_; refine (HPR.out _).mono ?_; rintro e w8 ⟨rfl, hb8⟩; have T8 := Lib.hid (T7.out.trans (hb8.mono T7.out.size)); have R8 := Lib.hid (keepH hb8 (Array.getElem?_eq_some_iff.1 R7.out).1 R7.out); obtain ⟨x80, x81, x82, _, _, _⟩ := trip_cell R8.out; have c8 := keepC hb8 (World.block_lt_of_cell? _ _ c7) c7; have K13 := True.intro)
                      | (go_at_call 30; have hx_ := K11; clear hx_; refine (D2.out _).mono ?_; rintro e w_ ⟨rfl, rfl⟩; have K12 := True.intro)
                      | (go_at_call 30; have hx_ := K10; clear hx_; refine (D1.out _).mono ?_; rintro e w_ ⟨rfl, rfl⟩; have K11 := True.intro)
                      | (go_at_call 30; have hx_ := K9; clear hx_; refine (D3.out _).mono ?_; rintro e w_ ⟨rfl, rfl⟩; have K10 := True.intro)
                      | (go_at_call 33; have hx_ := K8; clear hx_; refine (HPR.out _).mono ?_; rintro e w7 ⟨rfl, hb7⟩; have T7 := Lib.hid (T6.out.trans (hb7.mono T6.out.size)); have R7 := Lib.hid (keepH hb7 (Array.getElem?_eq_some_iff.1 R6.out).1 R6.out); obtain ⟨x70, x71, x72, _, _, _⟩ := trip_cell R7.out; have c7 := keepC hb7 (World.block_lt_of_cell? _ _ c6) c6; have K9 := True.intro)
                      | (go_at_call 32; have hx_ := K7; clear hx_; refine (HFU.out _).mono ?_; rintro e w6 ⟨rfl, hb6⟩; have T6 := Lib.hid (T5.out.trans (hb6.mono T5.out.size)); have R6 := Lib.hid (keepH hb6 (Array.getElem?_eq_some_iff.1 R5.out).1 R5.out); obtain ⟨x60, x61, x62, _, _, _⟩ := trip_cell R6.out; have c6 := keepC hb6 (World.block_lt_of_cell? _ _ c5) c5; have K8 := True.intro)
                      | (go_at_call 17; have hx_ := K6; clear hx_; refine (iCom _ _ _ _ _ _ _ HN.out hm (IW.out _ T4.out) B (Nat.le_trans hB0 T4.out.size) (HTE.out.on (T4.out.mono hB0))).mono ?_; rw [HCM.out.1, HCM.out.2]; rintro e w5 ⟨rfl, hb5⟩; have T5 := Lib.hid (T4.out.trans (hb5.mono T4.out.size)); have R5 := Lib.hid (keepH hb5 (Array.getElem?_eq_some_iff.1 R4.out).1 R4.out); obtain ⟨x50, x51, x52, _, _, _⟩ := trip_cell R5.out; have c5 := keepC hb5 (World.block_lt_of_cell? _ _ c4) c4; have K7 := True.intro)
                      | (go_at_call 31; have hx_ := K5; clear hx_; refine (HSU.out _ (Nat.le_trans hB0 T3.out.size) (HTZ.out.on (T3.out.mono hB0))).mono ?_; rintro e w4 ⟨rfl, hb4⟩; have T4 := Lib.hid (T3.out.trans (hb4.mono T3.out.size)); have R4 := Lib.hid (keepH hb4 (Array.getElem?_eq_some_iff.1 R3.out).1 R3.out); obtain ⟨x40, x41, x42, _, _, _⟩ := trip_cell R4.out; have c4 := keepC hb4 (World.block_lt_of_cell? _ _ c3) c3; have K6 := True.intro)
                      | (go_at_call 30; have hx_ := K4; clear hx_; refine (D2.out _).mono ?_; rintro e w_ ⟨rfl, rfl⟩; have K5 := True.intro)
                      | (go_at_call 30; have hx_ := K3; clear hx_; refine (D1.out _).mono ?_; rintro e w_ ⟨rfl, rfl⟩; have K4 := True.intro)
                      | (go_at_call 25; have hx_ := K2; clear hx_; refine (iPrm _ _ _ _ _ HN.out hm (IW.out _ T2.out)).mono ?_; rw [HPM.out]; rintro e w3 ⟨rfl, hb3⟩; have T3 := Lib.hid (T2.out.trans (hb3.mono T2.out.size)); have R3 := Lib.hid (keepH hb3 (Array.getElem?_eq_some_iff.1 R2.out).1 R2.out); obtain ⟨x30, x31, x32, _, _, _⟩ := trip_cell R3.out; have c3 := keepC hb3 (World.block_lt_of_cell? _ _ c2) c2; have K3 := True.intro)
                      | (have hx_ := K1; clear hx_; go_at_call 29; refine (iRef_no _).mono ?_; rintro e w2 ⟨rfl, hb2⟩; have T2 := Lib.hid (TA.out.trans (hb2.mono TA.out.size)); have R2 := Lib.hid (keepH hb2 (by simp) RY.out); obtain ⟨z0, z1, z2, _, _, _⟩ := trip_cell R2.out; have c2 := keepC hb2 (World.block_lt_of_cell? _ _ c1) c1; have K2 := True.intro)
                      | (go_at_call 28; refine (iFSS_yes _ _ _ _ _ _ _ HN.out hm (HI.out.below rfl T0.out) HS.out).mono ?_; rw [EP.out, EQ.out, ER.out]; rintro e w1 ⟨rfl, hb1⟩; have TA := Lib.hid ((HB.out.trans (hb1.mono (by simp))).alloc (Nat.le_trans (by simp) hb1.size) (.cells #[.int .i64 p, .int .i64 q, .int .i64 r] 44)); have RY := Lib.hid (heap_alloc_new w1 (.cells #[.int .i64 p, .int .i64 q, .int .i64 r] 44)); obtain ⟨y0, y1, y2, _, _, _⟩ := trip_cell RY.out; have c1 := keepC (hb1.alloc hb1.size (.cells #[.int .i64 p, .int .i64 q, .int .i64 r] 44)) (by simp) C1; have K1 := True.intro))
                    go_ret
                    exact ⟨by first | rfl | (rw [HKK.out]; rfl), T8.out⟩
                  | false =>
                    go_enter Tryz.func6, Tryz.ntmps6
                    go_wp2_with (first
                      | (go_at_call 33; have hx_ := K12; clear hx_; refine (HPR.out _).mono ?_; rintro e w8 ⟨rfl, hb8⟩; have T8 := Lib.hid (T7.out.trans (hb8.mono T7.out.size)); have R8 := Lib.hid (keepH hb8 (Array.getElem?_eq_some_iff.1 R7.out).1 R7.out); obtain ⟨x80, x81, x82, _, _, _⟩ := trip_cell R8.out; have c8 := keepC hb8 (World.block_lt_of_cell? _ _ c7) c7; have K13 := True.intro)
                      | (go_at_call 30; have hx_ := K11; clear hx_; refine (D2.out _).mono ?_; rintro e w_ ⟨rfl, rfl⟩; have K12 := True.intro)
                      | (go_at_call 30; have hx_ := K10; clear hx_; refine (D1.out _).mono ?_; rintro e w_ ⟨rfl, rfl⟩; have K11 := True.intro)
                      | (go_at_call 30; have hx_ := K9; clear hx_; refine (D3.out _).mono ?_; rintro e w_ ⟨rfl, rfl⟩; have K10 := True.intro)
                      | (go_at_call 33; have hx_ := K8; clear hx_; refine (HPR.out _).mono ?_; rintro e w7 ⟨rfl, hb7⟩; have T7 := Lib.hid (T6.out.trans (hb7.mono T6.out.size)); have R7 := Lib.hid (keepH hb7 (Array.getElem?_eq_some_iff.1 R6.out).1 R6.out); obtain ⟨x70, x71, x72, _, _, _⟩ := trip_cell R7.out; have c7 := keepC hb7 (World.block_lt_of_cell? _ _ c6) c6; have K9 := True.intro)
                      | (go_at_call 32; have hx_ := K7; clear hx_; refine (HFU.out _).mono ?_; rintro e w6 ⟨rfl, hb6⟩; have T6 := Lib.hid (T5.out.trans (hb6.mono T5.out.size)); have R6 := Lib.hid (keepH hb6 (Array.getElem?_eq_some_iff.1 R5.out).1 R5.out); obtain ⟨x60, x61, x62, _, _, _⟩ := trip_cell R6.out; have c6 := keepC hb6 (World.block_lt_of_cell? _ _ c5) c5; have K8 := True.intro)
                      | (go_at_call 17; have hx_ := K6; clear hx_; refine (iCom _ _ _ _ _ _ _ HN.out hm (IW.out _ T4.out) B (Nat.le_trans hB0 T4.out.size) (HTE.out.on (T4.out.mono hB0))).mono ?_; rw [HCM.out.1, HCM.out.2]; rintro e w5 ⟨rfl, hb5⟩; have T5 := Lib.hid (T4.out.trans (hb5.mono T4.out.size)); have R5 := Lib.hid (keepH hb5 (Array.getElem?_eq_some_iff.1 R4.out).1 R4.out); obtain ⟨x50, x51, x52, _, _, _⟩ := trip_cell R5.out; have c5 := keepC hb5 (World.block_lt_of_cell? _ _ c4) c4; have K7 := True.intro)
                      | (go_at_call 31; have hx_ := K5; clear hx_; refine (HSU.out _ (Nat.le_trans hB0 T3.out.size) (HTZ.out.on (T3.out.mono hB0))).mono ?_; rintro e w4 ⟨rfl, hb4⟩; have T4 := Lib.hid (T3.out.trans (hb4.mono T3.out.size)); have R4 := Lib.hid (keepH hb4 (Array.getElem?_eq_some_iff.1 R3.out).1 R3.out); obtain ⟨x40, x41, x42, _, _, _⟩ := trip_cell R4.out; have c4 := keepC hb4 (World.block_lt_of_cell? _ _ c3) c3; have K6 := True.intro)
                      | (go_at_call 30; have hx_ := K4; clear hx_; refine (D2.out _).mono ?_; rintro e w_ ⟨rfl, rfl⟩; have K5 := True.intro)
                      | (go_at_call 30; have hx_ := K3; clear hx_; refine (D1.out _).mono ?_; rintro e w_ ⟨rfl, rfl⟩; have K4 := True.intro)
                      | (go_at_call 25; have hx_ := K2; clear hx_; refine (iPrm _ _ _ _ _ HN.out hm (IW.out _ T2.out)).mono ?_; rw [HPM.out]; rintro e w3 ⟨rfl, hb3⟩; have T3 := Lib.hid (T2.out.trans (hb3.mono T2.out.size)); have R3 := Lib.hid (keepH hb3 (Array.getElem?_eq_some_iff.1 R2.out).1 R2.out); obtain ⟨x30, x31, x32, _, _, _⟩ := trip_cell R3.out; have c3 := keepC hb3 (World.block_lt_of_cell? _ _ c2) c2; have K3 := True.intro)
                      | (have hx_ := K1; clear hx_; go_at_call 29; refine (iRef_no _).mono ?_; rintro e w2 ⟨rfl, hb2⟩; have T2 := Lib.hid (TA.out.trans (hb2.mono TA.out.size)); have R2 := Lib.hid (keepH hb2 (by simp) RY.out); obtain ⟨z0, z1, z2, _, _, _⟩ := trip_cell R2.out; have c2 := keepC hb2 (World.block_lt_of_cell? _ _ c1) c1; have K2 := True.intro)
                      | (go_at_call 28; refine (iFSS_yes _ _ _ _ _ _ _ HN.out hm (HI.out.below rfl T0.out) HS.out).mono ?_; rw [EP.out, EQ.out, ER.out]; rintro e w1 ⟨rfl, hb1⟩; have TA := Lib.hid ((HB.out.trans (hb1.mono (by simp))).alloc (Nat.le_trans (by simp) hb1.size) (.cells #[.int .i64 p, .int .i64 q, .int .i64 r] 44)); have RY := Lib.hid (heap_alloc_new w1 (.cells #[.int .i64 p, .int .i64 q, .int .i64 r] 44)); obtain ⟨y0, y1, y2, _, _, _⟩ := trip_cell RY.out; have c1 := keepC (hb1.alloc hb1.size (.cells #[.int .i64 p, .int .i64 q, .int .i64 r] 44)) (by simp) C1; have K1 := True.intro))
                    go_ret
                    exact ⟨by first | rfl | (rw [HKK.out]; rfl), T8.out⟩
      | false =>
        cases B3 with
        | false =>
          rw [Bool.not_false] at hB3n
          go_enter Tryz.func6, Tryz.ntmps6
          go_wp2_with (first
            | (go_at_call 30; have hx_ := K8; clear hx_; refine (D3.out _).mono ?_; rintro e w_ ⟨rfl, rfl⟩; have K9 := True.intro)
            | (go_at_call 32; have hx_ := K7; clear hx_; refine (HFU.out _).mono ?_; rintro e w6 ⟨rfl, hb6⟩; have T6 := Lib.hid (T5.out.trans (hb6.mono T5.out.size)); have R6 := Lib.hid (keepH hb6 (Array.getElem?_eq_some_iff.1 R5.out).1 R5.out); obtain ⟨x60, x61, x62, _, _, _⟩ := trip_cell R6.out; have c6 := keepC hb6 (World.block_lt_of_cell? _ _ c5) c5; have K8 := True.intro)
            | (go_at_call 17; have hx_ := K6; clear hx_; refine (iCom _ _ _ _ _ _ _ HN.out hm (IW.out _ T4.out) B (Nat.le_trans hB0 T4.out.size) (HTE.out.on (T4.out.mono hB0))).mono ?_; rw [HCM.out.1, HCM.out.2]; rintro e w5 ⟨rfl, hb5⟩; have T5 := Lib.hid (T4.out.trans (hb5.mono T4.out.size)); have R5 := Lib.hid (keepH hb5 (Array.getElem?_eq_some_iff.1 R4.out).1 R4.out); obtain ⟨x50, x51, x52, _, _, _⟩ := trip_cell R5.out; have c5 := keepC hb5 (World.block_lt_of_cell? _ _ c4) c4; have K7 := True.intro)
            | (go_at_call 31; have hx_ := K5; clear hx_; refine (HSU.out _ (Nat.le_trans hB0 T3.out.size) (HTZ.out.on (T3.out.mono hB0))).mono ?_; rintro e w4 ⟨rfl, hb4⟩; have T4 := Lib.hid (T3.out.trans (hb4.mono T3.out.size)); have R4 := Lib.hid (keepH hb4 (Array.getElem?_eq_some_iff.1 R3.out).1 R3.out); obtain ⟨x40, x41, x42, _, _, _⟩ := trip_cell R4.out; have c4 := keepC hb4 (World.block_lt_of_cell? _ _ c3) c3; have K6 := True.intro)
            | (go_at_call 30; have hx_ := K4; clear hx_; refine (D2.out _).mono ?_; rintro e w_ ⟨rfl, rfl⟩; have K5 := True.intro)
            | (go_at_call 30; have hx_ := K3; clear hx_; refine (D1.out _).mono ?_; rintro e w_ ⟨rfl, rfl⟩; have K4 := True.intro)
            | (go_at_call 25; have hx_ := K2; clear hx_; refine (iPrm _ _ _ _ _ HN.out hm (IW.out _ T2.out)).mono ?_; rw [HPM.out]; rintro e w3 ⟨rfl, hb3⟩; have T3 := Lib.hid (T2.out.trans (hb3.mono T2.out.size)); have R3 := Lib.hid (keepH hb3 (Array.getElem?_eq_some_iff.1 R2.out).1 R2.out); obtain ⟨x30, x31, x32, _, _, _⟩ := trip_cell R3.out; have c3 := keepC hb3 (World.block_lt_of_cell? _ _ c2) c2; have K3 := True.intro)
            | (have hx_ := K1; clear hx_; go_at_call 29; refine (iRef_no _).mono ?_; rintro e w2 ⟨rfl, hb2⟩; have T2 := Lib.hid (TA.out.trans (hb2.mono TA.out.size)); have R2 := Lib.hid (keepH hb2 (by simp) RY.out); obtain ⟨z0, z1, z2, _, _, _⟩ := trip_cell R2.out; have c2 := keepC hb2 (World.block_lt_of_cell? _ _ c1) c1; have K2 := True.intro)
            | (go_at_call 28; refine (iFSS_yes _ _ _ _ _ _ _ HN.out hm (HI.out.below rfl T0.out) HS.out).mono ?_; rw [EP.out, EQ.out, ER.out]; rintro e w1 ⟨rfl, hb1⟩; have TA := Lib.hid ((HB.out.trans (hb1.mono (by simp))).alloc (Nat.le_trans (by simp) hb1.size) (.cells #[.int .i64 p, .int .i64 q, .int .i64 r] 44)); have RY := Lib.hid (heap_alloc_new w1 (.cells #[.int .i64 p, .int .i64 q, .int .i64 r] 44)); obtain ⟨y0, y1, y2, _, _, _⟩ := trip_cell RY.out; have c1 := keepC (hb1.alloc hb1.size (.cells #[.int .i64 p, .int .i64 q, .int .i64 r] 44)) (by simp) C1; have K1 := True.intro))
          go_ret
          exact ⟨by first | rfl | (rw [HKK.out]; rfl), T6.out⟩
        | true =>
          rw [Bool.not_true] at hB3n
          cases B4 with
          | true =>
            go_enter Tryz.func6, Tryz.ntmps6
            go_wp2_with (first
              | (go_at_call 30; have hx_ := K9; clear hx_; refine (D1.out _).mono ?_; rintro e w_ ⟨rfl, rfl⟩; have K10 := True.intro)
              | (go_at_call 30; have hx_ := K8; clear hx_; refine (D3.out _).mono ?_; rintro e w_ ⟨rfl, rfl⟩; have K9 := True.intro)
              | (go_at_call 32; have hx_ := K7; clear hx_; refine (HFU.out _).mono ?_; rintro e w6 ⟨rfl, hb6⟩; have T6 := Lib.hid (T5.out.trans (hb6.mono T5.out.size)); have R6 := Lib.hid (keepH hb6 (Array.getElem?_eq_some_iff.1 R5.out).1 R5.out); obtain ⟨x60, x61, x62, _, _, _⟩ := trip_cell R6.out; have c6 := keepC hb6 (World.block_lt_of_cell? _ _ c5) c5; have K8 := True.intro)
              | (go_at_call 17; have hx_ := K6; clear hx_; refine (iCom _ _ _ _ _ _ _ HN.out hm (IW.out _ T4.out) B (Nat.le_trans hB0 T4.out.size) (HTE.out.on (T4.out.mono hB0))).mono ?_; rw [HCM.out.1, HCM.out.2]; rintro e w5 ⟨rfl, hb5⟩; have T5 := Lib.hid (T4.out.trans (hb5.mono T4.out.size)); have R5 := Lib.hid (keepH hb5 (Array.getElem?_eq_some_iff.1 R4.out).1 R4.out); obtain ⟨x50, x51, x52, _, _, _⟩ := trip_cell R5.out; have c5 := keepC hb5 (World.block_lt_of_cell? _ _ c4) c4; have K7 := True.intro)
              | (go_at_call 31; have hx_ := K5; clear hx_; refine (HSU.out _ (Nat.le_trans hB0 T3.out.size) (HTZ.out.on (T3.out.mono hB0))).mono ?_; rintro e w4 ⟨rfl, hb4⟩; have T4 := Lib.hid (T3.out.trans (hb4.mono T3.out.size)); have R4 := Lib.hid (keepH hb4 (Array.getElem?_eq_some_iff.1 R3.out).1 R3.out); obtain ⟨x40, x41, x42, _, _, _⟩ := trip_cell R4.out; have c4 := keepC hb4 (World.block_lt_of_cell? _ _ c3) c3; have K6 := True.intro)
              | (go_at_call 30; have hx_ := K4; clear hx_; refine (D2.out _).mono ?_; rintro e w_ ⟨rfl, rfl⟩; have K5 := True.intro)
              | (go_at_call 30; have hx_ := K3; clear hx_; refine (D1.out _).mono ?_; rintro e w_ ⟨rfl, rfl⟩; have K4 := True.intro)
              | (go_at_call 25; have hx_ := K2; clear hx_; refine (iPrm _ _ _ _ _ HN.out hm (IW.out _ T2.out)).mono ?_; rw [HPM.out]; rintro e w3 ⟨rfl, hb3⟩; have T3 := Lib.hid (T2.out.trans (hb3.mono T2.out.size)); have R3 := Lib.hid (keepH hb3 (Array.getElem?_eq_some_iff.1 R2.out).1 R2.out); obtain ⟨x30, x31, x32, _, _, _⟩ := trip_cell R3.out; have c3 := keepC hb3 (World.block_lt_of_cell? _ _ c2) c2; have K3 := True.intro)
              | (have hx_ := K1; clear hx_; go_at_call 29; refine (iRef_no _).mono ?_; rintro e w2 ⟨rfl, hb2⟩; have T2 := Lib.hid (TA.out.trans (hb2.mono TA.out.size)); have R2 := Lib.hid (keepH hb2 (by simp) RY.out); obtain ⟨z0, z1, z2, _, _, _⟩ := trip_cell R2.out; have c2 := keepC hb2 (World.block_lt_of_cell? _ _ c1) c1; have K2 := True.intro)
              | (go_at_call 28; refine (iFSS_yes _ _ _ _ _ _ _ HN.out hm (HI.out.below rfl T0.out) HS.out).mono ?_; rw [EP.out, EQ.out, ER.out]; rintro e w1 ⟨rfl, hb1⟩; have TA := Lib.hid ((HB.out.trans (hb1.mono (by simp))).alloc (Nat.le_trans (by simp) hb1.size) (.cells #[.int .i64 p, .int .i64 q, .int .i64 r] 44)); have RY := Lib.hid (heap_alloc_new w1 (.cells #[.int .i64 p, .int .i64 q, .int .i64 r] 44)); obtain ⟨y0, y1, y2, _, _, _⟩ := trip_cell RY.out; have c1 := keepC (hb1.alloc hb1.size (.cells #[.int .i64 p, .int .i64 q, .int .i64 r] 44)) (by simp) C1; have K1 := True.intro))
            go_ret
            exact ⟨by first | rfl | (rw [HKK.out]; rfl), T6.out⟩
          | false =>
            cases B5 with
            | true =>
              go_enter Tryz.func6, Tryz.ntmps6
              go_wp2_with (first
                | (go_at_call 30; have hx_ := K10; clear hx_; refine (D2.out _).mono ?_; rintro e w_ ⟨rfl, rfl⟩; have K11 := True.intro)
                | (go_at_call 30; have hx_ := K9; clear hx_; refine (D1.out _).mono ?_; rintro e w_ ⟨rfl, rfl⟩; have K10 := True.intro)
                | (go_at_call 30; have hx_ := K8; clear hx_; refine (D3.out _).mono ?_; rintro e w_ ⟨rfl, rfl⟩; have K9 := True.intro)
                | (go_at_call 32; have hx_ := K7; clear hx_; refine (HFU.out _).mono ?_; rintro e w6 ⟨rfl, hb6⟩; have T6 := Lib.hid (T5.out.trans (hb6.mono T5.out.size)); have R6 := Lib.hid (keepH hb6 (Array.getElem?_eq_some_iff.1 R5.out).1 R5.out); obtain ⟨x60, x61, x62, _, _, _⟩ := trip_cell R6.out; have c6 := keepC hb6 (World.block_lt_of_cell? _ _ c5) c5; have K8 := True.intro)
                | (go_at_call 17; have hx_ := K6; clear hx_; refine (iCom _ _ _ _ _ _ _ HN.out hm (IW.out _ T4.out) B (Nat.le_trans hB0 T4.out.size) (HTE.out.on (T4.out.mono hB0))).mono ?_; rw [HCM.out.1, HCM.out.2]; rintro e w5 ⟨rfl, hb5⟩; have T5 := Lib.hid (T4.out.trans (hb5.mono T4.out.size)); have R5 := Lib.hid (keepH hb5 (Array.getElem?_eq_some_iff.1 R4.out).1 R4.out); obtain ⟨x50, x51, x52, _, _, _⟩ := trip_cell R5.out; have c5 := keepC hb5 (World.block_lt_of_cell? _ _ c4) c4; have K7 := True.intro)
                | (go_at_call 31; have hx_ := K5; clear hx_; refine (HSU.out _ (Nat.le_trans hB0 T3.out.size) (HTZ.out.on (T3.out.mono hB0))).mono ?_; rintro e w4 ⟨rfl, hb4⟩; have T4 := Lib.hid (T3.out.trans (hb4.mono T3.out.size)); have R4 := Lib.hid (keepH hb4 (Array.getElem?_eq_some_iff.1 R3.out).1 R3.out); obtain ⟨x40, x41, x42, _, _, _⟩ := trip_cell R4.out; have c4 := keepC hb4 (World.block_lt_of_cell? _ _ c3) c3; have K6 := True.intro)
                | (go_at_call 30; have hx_ := K4; clear hx_; refine (D2.out _).mono ?_; rintro e w_ ⟨rfl, rfl⟩; have K5 := True.intro)
                | (go_at_call 30; have hx_ := K3; clear hx_; refine (D1.out _).mono ?_; rintro e w_ ⟨rfl, rfl⟩; have K4 := True.intro)
                | (go_at_call 25; have hx_ := K2; clear hx_; refine (iPrm _ _ _ _ _ HN.out hm (IW.out _ T2.out)).mono ?_; rw [HPM.out]; rintro e w3 ⟨rfl, hb3⟩; have T3 := Lib.hid (T2.out.trans (hb3.mono T2.out.size)); have R3 := Lib.hid (keepH hb3 (Array.getElem?_eq_some_iff.1 R2.out).1 R2.out); obtain ⟨x30, x31, x32, _, _, _⟩ := trip_cell R3.out; have c3 := keepC hb3 (World.block_lt_of_cell? _ _ c2) c2; have K3 := True.intro)
                | (have hx_ := K1; clear hx_; go_at_call 29; refine (iRef_no _).mono ?_; rintro e w2 ⟨rfl, hb2⟩; have T2 := Lib.hid (TA.out.trans (hb2.mono TA.out.size)); have R2 := Lib.hid (keepH hb2 (by simp) RY.out); obtain ⟨z0, z1, z2, _, _, _⟩ := trip_cell R2.out; have c2 := keepC hb2 (World.block_lt_of_cell? _ _ c1) c1; have K2 := True.intro)
                | (go_at_call 28; refine (iFSS_yes _ _ _ _ _ _ _ HN.out hm (HI.out.below rfl T0.out) HS.out).mono ?_; rw [EP.out, EQ.out, ER.out]; rintro e w1 ⟨rfl, hb1⟩; have TA := Lib.hid ((HB.out.trans (hb1.mono (by simp))).alloc (Nat.le_trans (by simp) hb1.size) (.cells #[.int .i64 p, .int .i64 q, .int .i64 r] 44)); have RY := Lib.hid (heap_alloc_new w1 (.cells #[.int .i64 p, .int .i64 q, .int .i64 r] 44)); obtain ⟨y0, y1, y2, _, _, _⟩ := trip_cell RY.out; have c1 := keepC (hb1.alloc hb1.size (.cells #[.int .i64 p, .int .i64 q, .int .i64 r] 44)) (by simp) C1; have K1 := True.intro))
              go_ret
              exact ⟨by first | rfl | (rw [HKK.out]; rfl), T6.out⟩
            | false =>
              cases CB with
              | true =>
                go_enter Tryz.func6, Tryz.ntmps6
                go_wp2_with (first
                  | (go_at_call 30; have hx_ := K10; clear hx_; refine (D2.out _).mono ?_; rintro e w_ ⟨rfl, rfl⟩; have K11 := True.intro)
                  | (go_at_call 30; have hx_ := K9; clear hx_; refine (D1.out _).mono ?_; rintro e w_ ⟨rfl, rfl⟩; have K10 := True.intro)
                  | (go_at_call 30; have hx_ := K8; clear hx_; refine (D3.out _).mono ?_; rintro e w_ ⟨rfl, rfl⟩; have K9 := True.intro)
                  | (go_at_call 32; have hx_ := K7; clear hx_; refine (HFU.out _).mono ?_; rintro e w6 ⟨rfl, hb6⟩; have T6 := Lib.hid (T5.out.trans (hb6.mono T5.out.size)); have R6 := Lib.hid (keepH hb6 (Array.getElem?_eq_some_iff.1 R5.out).1 R5.out); obtain ⟨x60, x61, x62, _, _, _⟩ := trip_cell R6.out; have c6 := keepC hb6 (World.block_lt_of_cell? _ _ c5) c5; have K8 := True.intro)
                  | (go_at_call 17; have hx_ := K6; clear hx_; refine (iCom _ _ _ _ _ _ _ HN.out hm (IW.out _ T4.out) B (Nat.le_trans hB0 T4.out.size) (HTE.out.on (T4.out.mono hB0))).mono ?_; rw [HCM.out.1, HCM.out.2]; rintro e w5 ⟨rfl, hb5⟩; have T5 := Lib.hid (T4.out.trans (hb5.mono T4.out.size)); have R5 := Lib.hid (keepH hb5 (Array.getElem?_eq_some_iff.1 R4.out).1 R4.out); obtain ⟨x50, x51, x52, _, _, _⟩ := trip_cell R5.out; have c5 := keepC hb5 (World.block_lt_of_cell? _ _ c4) c4; have K7 := True.intro)
                  | (go_at_call 31; have hx_ := K5; clear hx_; refine (HSU.out _ (Nat.le_trans hB0 T3.out.size) (HTZ.out.on (T3.out.mono hB0))).mono ?_; rintro e w4 ⟨rfl, hb4⟩; have T4 := Lib.hid (T3.out.trans (hb4.mono T3.out.size)); have R4 := Lib.hid (keepH hb4 (Array.getElem?_eq_some_iff.1 R3.out).1 R3.out); obtain ⟨x40, x41, x42, _, _, _⟩ := trip_cell R4.out; have c4 := keepC hb4 (World.block_lt_of_cell? _ _ c3) c3; have K6 := True.intro)
                  | (go_at_call 30; have hx_ := K4; clear hx_; refine (D2.out _).mono ?_; rintro e w_ ⟨rfl, rfl⟩; have K5 := True.intro)
                  | (go_at_call 30; have hx_ := K3; clear hx_; refine (D1.out _).mono ?_; rintro e w_ ⟨rfl, rfl⟩; have K4 := True.intro)
                  | (go_at_call 25; have hx_ := K2; clear hx_; refine (iPrm _ _ _ _ _ HN.out hm (IW.out _ T2.out)).mono ?_; rw [HPM.out]; rintro e w3 ⟨rfl, hb3⟩; have T3 := Lib.hid (T2.out.trans (hb3.mono T2.out.size)); have R3 := Lib.hid (keepH hb3 (Array.getElem?_eq_some_iff.1 R2.out).1 R2.out); obtain ⟨x30, x31, x32, _, _, _⟩ := trip_cell R3.out; have c3 := keepC hb3 (World.block_lt_of_cell? _ _ c2) c2; have K3 := True.intro)
                  | (have hx_ := K1; clear hx_; go_at_call 29; refine (iRef_no _).mono ?_; rintro e w2 ⟨rfl, hb2⟩; have T2 := Lib.hid (TA.out.trans (hb2.mono TA.out.size)); have R2 := Lib.hid (keepH hb2 (by simp) RY.out); obtain ⟨z0, z1, z2, _, _, _⟩ := trip_cell R2.out; have c2 := keepC hb2 (World.block_lt_of_cell? _ _ c1) c1; have K2 := True.intro)
                  | (go_at_call 28; refine (iFSS_yes _ _ _ _ _ _ _ HN.out hm (HI.out.below rfl T0.out) HS.out).mono ?_; rw [EP.out, EQ.out, ER.out]; rintro e w1 ⟨rfl, hb1⟩; have TA := Lib.hid ((HB.out.trans (hb1.mono (by simp))).alloc (Nat.le_trans (by simp) hb1.size) (.cells #[.int .i64 p, .int .i64 q, .int .i64 r] 44)); have RY := Lib.hid (heap_alloc_new w1 (.cells #[.int .i64 p, .int .i64 q, .int .i64 r] 44)); obtain ⟨y0, y1, y2, _, _, _⟩ := trip_cell RY.out; have c1 := keepC (hb1.alloc hb1.size (.cells #[.int .i64 p, .int .i64 q, .int .i64 r] 44)) (by simp) C1; have K1 := True.intro))
                go_ret
                exact ⟨by first | rfl | (rw [HKK.out]; rfl), T6.out⟩
              | false =>
                cases B7 with
                | true =>
                  go_enter Tryz.func6, Tryz.ntmps6
                  go_wp2_with (first
                    | (go_at_call 33; have hx_ := K11; clear hx_; refine (HPR.out _).mono ?_; rintro e w7 ⟨rfl, hb7⟩; have T7 := Lib.hid (T6.out.trans (hb7.mono T6.out.size)); have R7 := Lib.hid (keepH hb7 (Array.getElem?_eq_some_iff.1 R6.out).1 R6.out); obtain ⟨x70, x71, x72, _, _, _⟩ := trip_cell R7.out; have c7 := keepC hb7 (World.block_lt_of_cell? _ _ c6) c6; have K12 := True.intro)
                    | (go_at_call 30; have hx_ := K10; clear hx_; refine (D2.out _).mono ?_; rintro e w_ ⟨rfl, rfl⟩; have K11 := True.intro)
                    | (go_at_call 30; have hx_ := K9; clear hx_; refine (D1.out _).mono ?_; rintro e w_ ⟨rfl, rfl⟩; have K10 := True.intro)
                    | (go_at_call 30; have hx_ := K8; clear hx_; refine (D3.out _).mono ?_; rintro e w_ ⟨rfl, rfl⟩; have K9 := True.intro)
                    | (go_at_call 32; have hx_ := K7; clear hx_; refine (HFU.out _).mono ?_; rintro e w6 ⟨rfl, hb6⟩; have T6 := Lib.hid (T5.out.trans (hb6.mono T5.out.size)); have R6 := Lib.hid (keepH hb6 (Array.getElem?_eq_some_iff.1 R5.out).1 R5.out); obtain ⟨x60, x61, x62, _, _, _⟩ := trip_cell R6.out; have c6 := keepC hb6 (World.block_lt_of_cell? _ _ c5) c5; have K8 := True.intro)
                    | (go_at_call 17; have hx_ := K6; clear hx_; refine (iCom _ _ _ _ _ _ _ HN.out hm (IW.out _ T4.out) B (Nat.le_trans hB0 T4.out.size) (HTE.out.on (T4.out.mono hB0))).mono ?_; rw [HCM.out.1, HCM.out.2]; rintro e w5 ⟨rfl, hb5⟩; have T5 := Lib.hid (T4.out.trans (hb5.mono T4.out.size)); have R5 := Lib.hid (keepH hb5 (Array.getElem?_eq_some_iff.1 R4.out).1 R4.out); obtain ⟨x50, x51, x52, _, _, _⟩ := trip_cell R5.out; have c5 := keepC hb5 (World.block_lt_of_cell? _ _ c4) c4; have K7 := True.intro)
                    | (go_at_call 31; have hx_ := K5; clear hx_; refine (HSU.out _ (Nat.le_trans hB0 T3.out.size) (HTZ.out.on (T3.out.mono hB0))).mono ?_; rintro e w4 ⟨rfl, hb4⟩; have T4 := Lib.hid (T3.out.trans (hb4.mono T3.out.size)); have R4 := Lib.hid (keepH hb4 (Array.getElem?_eq_some_iff.1 R3.out).1 R3.out); obtain ⟨x40, x41, x42, _, _, _⟩ := trip_cell R4.out; have c4 := keepC hb4 (World.block_lt_of_cell? _ _ c3) c3; have K6 := True.intro)
                    | (go_at_call 30; have hx_ := K4; clear hx_; refine (D2.out _).mono ?_; rintro e w_ ⟨rfl, rfl⟩; have K5 := True.intro)
                    | (go_at_call 30; have hx_ := K3; clear hx_; refine (D1.out _).mono ?_; rintro e w_ ⟨rfl, rfl⟩; have K4 := True.intro)
                    | (go_at_call 25; have hx_ := K2; clear hx_; refine (iPrm _ _ _ _ _ HN.out hm (IW.out _ T2.out)).mono ?_; rw [HPM.out]; rintro e w3 ⟨rfl, hb3⟩; have T3 := Lib.hid (T2.out.trans (hb3.mono T2.out.size)); have R3 := Lib.hid (keepH hb3 (Array.getElem?_eq_some_iff.1 R2.out).1 R2.out); obtain ⟨x30, x31, x32, _, _, _⟩ := trip_cell R3.out; have c3 := keepC hb3 (World.block_lt_of_cell? _ _ c2) c2; have K3 := True.intro)
                    | (have hx_ := K1; clear hx_; go_at_call 29; refine (iRef_no _).mono ?_; rintro e w2 ⟨rfl, hb2⟩; have T2 := Lib.hid (TA.out.trans (hb2.mono TA.out.size)); have R2 := Lib.hid (keepH hb2 (by simp) RY.out); obtain ⟨z0, z1, z2, _, _, _⟩ := trip_cell R2.out; have c2 := keepC hb2 (World.block_lt_of_cell? _ _ c1) c1; have K2 := True.intro)
                    | (go_at_call 28; refine (iFSS_yes _ _ _ _ _ _ _ HN.out hm (HI.out.below rfl T0.out) HS.out).mono ?_; rw [EP.out, EQ.out, ER.out]; rintro e w1 ⟨rfl, hb1⟩; have TA := Lib.hid ((HB.out.trans (hb1.mono (by simp))).alloc (Nat.le_trans (by simp) hb1.size) (.cells #[.int .i64 p, .int .i64 q, .int .i64 r] 44)); have RY := Lib.hid (heap_alloc_new w1 (.cells #[.int .i64 p, .int .i64 q, .int .i64 r] 44)); obtain ⟨y0, y1, y2, _, _, _⟩ := trip_cell RY.out; have c1 := keepC (hb1.alloc hb1.size (.cells #[.int .i64 p, .int .i64 q, .int .i64 r] 44)) (by simp) C1; have K1 := True.intro))
                  go_ret
                  exact ⟨by first | rfl | (rw [HKK.out]; rfl), T7.out⟩
                | false =>
                  go_enter Tryz.func6, Tryz.ntmps6
                  go_wp2_with (first
                    | (go_at_call 33; have hx_ := K11; clear hx_; refine (HPR.out _).mono ?_; rintro e w7 ⟨rfl, hb7⟩; have T7 := Lib.hid (T6.out.trans (hb7.mono T6.out.size)); have R7 := Lib.hid (keepH hb7 (Array.getElem?_eq_some_iff.1 R6.out).1 R6.out); obtain ⟨x70, x71, x72, _, _, _⟩ := trip_cell R7.out; have c7 := keepC hb7 (World.block_lt_of_cell? _ _ c6) c6; have K12 := True.intro)
                    | (go_at_call 30; have hx_ := K10; clear hx_; refine (D2.out _).mono ?_; rintro e w_ ⟨rfl, rfl⟩; have K11 := True.intro)
                    | (go_at_call 30; have hx_ := K9; clear hx_; refine (D1.out _).mono ?_; rintro e w_ ⟨rfl, rfl⟩; have K10 := True.intro)
                    | (go_at_call 30; have hx_ := K8; clear hx_; refine (D3.out _).mono ?_; rintro e w_ ⟨rfl, rfl⟩; have K9 := True.intro)
                    | (go_at_call 32; have hx_ := K7; clear hx_; refine (HFU.out _).mono ?_; rintro e w6 ⟨rfl, hb6⟩; have T6 := Lib.hid (T5.out.trans (hb6.mono T5.out.size)); have R6 := Lib.hid (keepH hb6 (Array.getElem?_eq_some_iff.1 R5.out).1 R5.out); obtain ⟨x60, x61, x62, _, _, _⟩ := trip_cell R6.out; have c6 := keepC hb6 (World.block_lt_of_cell? _ _ c5) c5; have K8 := True.intro)
                    | (go_at_call 17; have hx_ := K6; clear hx_; refine (iCom _ _ _ _ _ _ _ HN.out hm (IW.out _ T4.out) B (Nat.le_trans hB0 T4.out.size) (HTE.out.on (T4.out.mono hB0))).mono ?_; rw [HCM.out.1, HCM.out.2]; rintro e w5 ⟨rfl, hb5⟩; have T5 := Lib.hid (T4.out.trans (hb5.mono T4.out.size)); have R5 := Lib.hid (keepH hb5 (Array.getElem?_eq_some_iff.1 R4.out).1 R4.out); obtain ⟨x50, x51, x52, _, _, _⟩ := trip_cell R5.out; have c5 := keepC hb5 (World.block_lt_of_cell? _ _ c4) c4; have K7 := True.intro)
                    | (go_at_call 31; have hx_ := K5; clear hx_; refine (HSU.out _ (Nat.le_trans hB0 T3.out.size) (HTZ.out.on (T3.out.mono hB0))).mono ?_; rintro e w4 ⟨rfl, hb4⟩; have T4 := Lib.hid (T3.out.trans (hb4.mono T3.out.size)); have R4 := Lib.hid (keepH hb4 (Array.getElem?_eq_some_iff.1 R3.out).1 R3.out); obtain ⟨x40, x41, x42, _, _, _⟩ := trip_cell R4.out; have c4 := keepC hb4 (World.block_lt_of_cell? _ _ c3) c3; have K6 := True.intro)
                    | (go_at_call 30; have hx_ := K4; clear hx_; refine (D2.out _).mono ?_; rintro e w_ ⟨rfl, rfl⟩; have K5 := True.intro)
                    | (go_at_call 30; have hx_ := K3; clear hx_; refine (D1.out _).mono ?_; rintro e w_ ⟨rfl, rfl⟩; have K4 := True.intro)
                    | (go_at_call 25; have hx_ := K2; clear hx_; refine (iPrm _ _ _ _ _ HN.out hm (IW.out _ T2.out)).mono ?_; rw [HPM.out]; rintro e w3 ⟨rfl, hb3⟩; have T3 := Lib.hid (T2.out.trans (hb3.mono T2.out.size)); have R3 := Lib.hid (keepH hb3 (Array.getElem?_eq_some_iff.1 R2.out).1 R2.out); obtain ⟨x30, x31, x32, _, _, _⟩ := trip_cell R3.out; have c3 := keepC hb3 (World.block_lt_of_cell? _ _ c2) c2; have K3 := True.intro)
                    | (have hx_ := K1; clear hx_; go_at_call 29; refine (iRef_no _).mono ?_; rintro e w2 ⟨rfl, hb2⟩; have T2 := Lib.hid (TA.out.trans (hb2.mono TA.out.size)); have R2 := Lib.hid (keepH hb2 (by simp) RY.out); obtain ⟨z0, z1, z2, _, _, _⟩ := trip_cell R2.out; have c2 := keepC hb2 (World.block_lt_of_cell? _ _ c1) c1; have K2 := True.intro)
                    | (go_at_call 28; refine (iFSS_yes _ _ _ _ _ _ _ HN.out hm (HI.out.below rfl T0.out) HS.out).mono ?_; rw [EP.out, EQ.out, ER.out]; rintro e w1 ⟨rfl, hb1⟩; have TA := Lib.hid ((HB.out.trans (hb1.mono (by simp))).alloc (Nat.le_trans (by simp) hb1.size) (.cells #[.int .i64 p, .int .i64 q, .int .i64 r] 44)); have RY := Lib.hid (heap_alloc_new w1 (.cells #[.int .i64 p, .int .i64 q, .int .i64 r] 44)); obtain ⟨y0, y1, y2, _, _, _⟩ := trip_cell RY.out; have c1 := keepC (hb1.alloc hb1.size (.cells #[.int .i64 p, .int .i64 q, .int .i64 r] 44)) (by simp) C1; have K1 := True.intro))
                  go_ret
                  exact ⟨by first | rfl | (rw [HKK.out]; rfl), T7.out⟩
end Go.Proofs.YtfkleihnafeoeaaGreatDoor
