/- The document's reading of chapter 10: the longest run of a set. -/
import Derived.Test.YtfkleihnafeoeaaVoSpec
namespace Go.Proofs.Ytfkleihnafeoeaa
open Go.RowKit
set_option maxRecDepth 1000000
theorem run_yes {l : List Int} {a d f x s : Nat} (h : a.testBit x = true) (h2 : s.testBit x = false) : runN l a d (f + 1) x s = runN l a d f (adN l x d) (s ||| 2 ^ x) + 1 := by
  show (if (a.testBit x && !s.testBit x) = true then runN l a d f (adN l x d) (s ||| 2 ^ x) + 1 else 0) = _
  rw [h, h2, if_pos (show (true && !false) = true from rfl)]
theorem run_no {l : List Int} {a d x s : Nat} (h : (a.testBit x && !s.testBit x) = false) : ∀ f, runN l a d f x s = 0
  | 0 => rfl
  | f + 1 => by
    show (if (a.testBit x && !s.testBit x) = true then runN l a d f (adN l x d) (s ||| 2 ^ x) + 1 else 0) = _
    rw [h, if_neg (by simp)]
theorem full_bit {s x : Nat} (hs : s < 2 ^ 24) (hl : (bitsN s).length = 24) (hx : x < 24) : s.testBit x = true := by
  cases h : s.testBit x with
  | true => rfl
  | false =>
    have := or_len hs hx h
    have := bits_le (s ||| 2 ^ x)
    omega
theorem shr_bit (s x : Nat) (hs : s < 16777216) : bits .and .i64 ((s : Int) / 2 ^ x) 1 = ((s / 2 ^ x % 2 : Nat) : Int) := by
  have hsj : (s : Int) / 2 ^ x = ((s / 2 ^ x : Nat) : Int) := by simp
  have hle := Nat.div_le_self s (2 ^ x)
  rw [hsj]
  exact and1 (s / 2 ^ x) (by omega)
theorem shr_yes {s x : Nat} (hs : s < 16777216) (h : s.testBit x = true) : bits .and .i64 ((s : Int) / 2 ^ x) 1 = 1 := by
  rw [shr_bit s x hs, (bit_iff s x).1 h]
  rfl
theorem shr_no {s x : Nat} (hs : s < 16777216) (h : s.testBit x = false) : bits .and .i64 ((s : Int) / 2 ^ x) 1 = 0 := by
  rw [shr_bit s x hs]
  rcases Nat.mod_two_eq_zero_or_one (s / 2 ^ x) with g | g
  · rw [g]; rfl
  · rw [(bit_iff s x).2 g] at h; cases h
set_option maxHeartbeats 8000000 in
theorem sLng (w : World) (a : Option Addr) (l : List Int) (n cap : Nat) (s : Int) (hn : n = l.length) (hm : n ≤ 9223372036854775807) (hi : Ints w a l) :
    Calls Try.prog 11 #[.agg #[.slice a n cap], .int .i64 s] w fun e w' => e = .returned (.int .i64 (lngE l s)) ∧ Below w.heap.size w w' := by
  have HI := Lib.hid (ints_alloc hi (.cells #[.slice a n cap] 27))
  have HN := Lib.hid hn
  have C1 := newC w (.slice a n cap) 27 (n := w.heap.size) rfl
  have HB := Lib.hid (Joins.below_alloc1 w (.cells #[.slice a n cap] 27))
  have T0 := Lib.hid (Below.refl (w.alloc (.cells #[.slice a n cap] 27)).heap.size (w.alloc (.cells #[.slice a n cap] 27)))
  clear hi hn
  cases hs : isS l s with
  | false =>
    have HS := Lib.hid hs
    rw [show lngE l s = -1 by unfold lngE; rw [if_neg (by simp [hs])]]
    clear hs
    go_enter Try.func11, Try.ntmps11
    go_wp2_with (go_at_call 25; refine (sIsSet _ _ _ _ _ _ HN.out hm (HI.out.below rfl T0.out)).mono ?_; rw [HS.out]; rintro e w1 ⟨rfl, hb1⟩; have T1 := Lib.hid (T0.out.trans (hb1.mono T0.out.size)); have c1 := keepC T1.out (by simp) C1)
    go_ret
    exact ⟨rfl, HB.out.trans (T1.out.mono (by simp))⟩
  | true =>
    have HS := Lib.hid hs
    obtain ⟨hg, s, rfl, hsn, hs24⟩ := isS_true hs
    have hP := (ords_grp hg).prod
    obtain ⟨P, hPe⟩ : ∃ P : Nat, prodI l = (P : Int) := ⟨(prodI l).toNat, by omega⟩
    have hPt : (prodI l).toNat = P := by omega
    have hP24 : P ≤ 24 := by omega
    rw [show lngE l (s : Int) = ((lngN l s : Nat) : Int) by unfold lngE; rw [if_pos hs, Int.toNat_natCast]]
    unfold lngN
    rw [hPt]
    have HP := Lib.hid hPe
    have HG := Lib.hid hg
    have HA := Lib.hid hs24
    have hs16 : s < 16777216 := hs24
    have HS16 := Lib.hid hs16
    have HEL := Lib.hid (fun x (hx : x ∈ bitsN s) => grp_elt hg hsn hx)
    rw [hPe] at HEL
    have HRL : Hid (∀ x d, runN l s d 24 x 0 ≤ 24) := Lib.hid (fun x d => by
      have := run_le (l := l) (d := d) hs24 24 x 0 (by decide) (fun i hi => by simp at hi)
      have := bits_le s
      omega)
    have HAL : Hid (∀ x d, adN l x d < P) := Lib.hid (fun x d => by have := (abel_grp hg).lt x d; omega)
    have HAD : Hid (∀ y d : Nat, addN l (y : Int) (d : Int) = ((adN l y d : Nat) : Int)) := Lib.hid (fun y d => by have := addN_in (ords_grp hg) (y : Int) (d : Int); unfold adN; omega)
    obtain ⟨c, HC⟩ : ∃ c, Hid ((bitsN s).length = c) := ⟨_, Lib.hid rfl⟩
    have hc24 : c ≤ 24 := by rw [← HC.out]; exact bits_le s
    rw [HC.out]
    have HFS := Lib.hid (fun k => show mxN (fun i => mxN (fun d => runN l s d 24 ((bitsN s).getD i 0) 0) P) (k + 1) = max (mxN (fun i => mxN (fun d => runN l s d 24 ((bitsN s).getD i 0) 0) P) k) (mxN (fun d => runN l s d 24 ((bitsN s).getD k 0) 0) P) from rfl)
    have HFB : Hid (∀ k, mxN (fun i => mxN (fun d => runN l s d 24 ((bitsN s).getD i 0) 0) P) k ≤ 24) := Lib.hid (fun k => mx_le k (fun i _ => mx_le P (fun d _ => HRL.out _ d)))
    have HF0 : Hid (mxN (fun i => mxN (fun d => runN l s d 24 ((bitsN s).getD i 0) 0) P) 0 = 0) := Lib.hid rfl
    obtain ⟨FF, hFF⟩ : ∃ f, mxN (fun i => mxN (fun d => runN l s d 24 ((bitsN s).getD i 0) 0) P) = f := ⟨_, rfl⟩
    rw [hFF] at HFS HFB HF0 ⊢
    clear hs hg hs24 hs16 hsn hP hPe hPt hFF
    go_enter Try.func11, Try.ntmps11
    go_wp2_with (first
      | (go_at_call 26; refine (sL3I _ s HA.out).mono ?_; rintro e w3 ⟨v3, rfl, ho3, hb3⟩; obtain ⟨a3, cap3, rfl⟩ := own_slice ho3; have I3 := Lib.hid (own_ints ho3); have T3 := Lib.hid (T1.out.trans (hb3.mono T1.out.size)); have c3 := keepC T3.out (by simp) C1; clear ho3)
      | (go_at_call 25; refine (sIsSet _ _ _ _ _ _ HN.out hm (HI.out.below rfl T0.out)).mono ?_; rw [HS.out]; rintro e w1 ⟨rfl, hb1⟩; have T1 := Lib.hid (T0.out.trans (hb1.mono T0.out.size)); have c1 := keepC T1.out (by simp) C1))
    go_loopw [5, 7] (fun b i wr => ∃ k : Nat, k ≤ c ∧ i = .int .i64 k ∧ b = .int .i64 (FF k : Nat) ∧ Below w3.heap.size w3 wr) (fun _ i _ => c - (intOf i).toNat)
    case atStart => exact ⟨0, Nat.zero_le _, rfl, by rw [HF0.out]; rfl, Below.refl _ _⟩
    case round =>
      obtain ⟨k, hk, rfl, rfl, hbel⟩ := hrel
      obtain ⟨wa, rfl⟩ : ∃ W, W = wr := ⟨wr, rfl⟩
      have ca := keepC hbel (World.block_lt_of_cell? w3 _ c3) c3
      have HBL := Lib.hid hbel
      have HIa := Lib.hid ((HI.out.below rfl T3.out).below rfl hbel)
      have HLN := Lib.hid (LI_len s)
      have hlen : ((LI s).length : Int) = (c : Int) := by rw [HLN.out, HC.out]
      have hfb := HFB.out k
      by_cases hlt : k < c
      · have hki : (k : Int) < (c : Int) := by omega
        have hjl : k < (bitsN s).length := by rw [HC.out]; exact hlt
        have hkl : k < (LI s).length := by rw [HLN.out]; exact hjl
        have hmem : (bitsN s).getD k 0 ∈ bitsN s := by
          rw [List.getD, List.getElem?_eq_getElem hjl]
          exact List.getElem_mem hjl
        have hyP := HEL.out _ hmem
        rcases I3.out with h0 | ⟨bL, oL, h1, hbL, hcL⟩
        · rw [h0] at hkl; simp at hkl
        subst h1
        have d3 := hcL k hkl
        rw [LI_at s k hjl] at d3
        have da := keepC hbel hbL d3
        have HFK := Lib.hid (HFS.out k)
        obtain ⟨y, hy⟩ : ∃ y, (bitsN s).getD k 0 = y := ⟨_, rfl⟩
        rw [hy] at da hyP HFK
        have HYP := Lib.hid hyP
        have HGS := Lib.hid (fun d => show mxN (fun d => runN l s d 24 y 0) (d + 1) = max (mxN (fun d => runN l s d 24 y 0) d) (runN l s d 24 y 0) from rfl)
        have HGB : Hid (∀ d, mxN (fun d => runN l s d 24 y 0) d ≤ 24) := Lib.hid (fun d => mx_le d (fun e _ => HRL.out y e))
        have HG0 : Hid (mxN (fun d => runN l s d 24 y 0) 0 = 0) := Lib.hid rfl
        obtain ⟨GG, hGG⟩ : ∃ f, mxN (fun d => runN l s d 24 y 0) = f := ⟨_, rfl⟩
        rw [hGG] at HGS HGB HG0 HFK
        obtain ⟨B0, hB0⟩ : ∃ b, FF k = b := ⟨_, rfl⟩
        rw [hB0] at HFK hfb
        rw [hB0]
        have DA := Lib.hid da
        clear hjl hkl hmem hyP hcL hbL d3 da hy hGG hB0 hbel
        go_wp2
        go_loopw [5, 8] (fun b dd wr => ∃ d : Nat, d ≤ P ∧ dd = .int .i64 d ∧ b = .int .i64 (max B0 (GG d) : Nat) ∧ Below wa.heap.size wa wr) (fun _ dd _ => P - (intOf dd).toNat)
        case atStart => exact ⟨0, Nat.zero_le _, rfl, by rw [HG0.out, Nat.max_eq_left (Nat.zero_le _)], Below.refl _ _⟩
        case round =>
          obtain ⟨d, hd, rfl, rfl, hb4⟩ := hrel
          obtain ⟨wb, rfl⟩ : ∃ W, W = wr := ⟨wr, rfl⟩
          have cb := keepC hb4 (World.block_lt_of_cell? wa _ ca) ca
          have db := keepC hb4 (World.block_lt_of_cell? wa _ DA.out) DA.out
          have HB4 := Lib.hid hb4
          have HIb := Lib.hid (HIa.out.below rfl hb4)
          have hgb := HGB.out d
          by_cases hdl : d < P
          · have hdi : (d : Int) < (P : Int) := by omega
            have hd0 : (0 : Int) ≤ (d : Int) := by omega
            have hd23 : (d : Int) ≤ 23 := by omega
            have HGK := Lib.hid (HGS.out d)
            have hR := HRL.out y d
            obtain ⟨R, hRR⟩ : ∃ r, runN l s d 24 y 0 = r := ⟨_, rfl⟩
            rw [hRR] at HGK hR
            have HRR := Lib.hid hRR
            obtain ⟨BE, hBE⟩ : ∃ b, max B0 (GG d) = b := ⟨_, rfl⟩
            have HBE := Lib.hid hBE
            have hbe : BE ≤ 24 := by omega
            rw [hBE]
            clear hRR hBE hb4
            go_wp2_with (go_at_call 27; refine (sOrder _ _ l _ _ HN.out HG.out HIb.out).mono ?_; rw [HP.out]; rintro e w6 ⟨rfl, hb6⟩; have c6 := keepC hb6 (World.block_lt_of_cell? wb _ cb) cb; have d6 := keepC hb6 (World.block_lt_of_cell? wb _ db) db; have HI6 := Lib.hid (HIb.out.below rfl hb6))
            go_loopw [9, 10, 11] (fun nn sn xx wr => ∃ q f sq x : Nat, nn = .int .i64 q ∧ sn = .int .i64 sq ∧ xx = .int .i64 x ∧ q + f = 24 ∧ sq < 2 ^ 24 ∧ (bitsN sq).length = q ∧ x < P ∧ q + runN l s d f x sq = R ∧ Below w6.heap.size w6 wr) (fun nn _ _ _ => 24 - (intOf nn).toNat)
            case atStart => exact ⟨0, 24, 0, y, rfl, rfl, rfl, rfl, by decide, by decide, by have := HYP.out; omega, by rw [HRR.out]; omega, Below.refl _ _⟩
            case round =>
              obtain ⟨q, f, sq, x, rfl, rfl, rfl, hqf, hsq, hlq, hxP, hrun, hb7⟩ := hrel
              have HB7 := Lib.hid hb7
              have c7 := keepC hb7 (World.block_lt_of_cell? w6 _ c6) c6
              have HI7 := Lib.hid (HI6.out.below rfl hb7)
              have HSQ := Lib.hid hsq
              have HLQ := Lib.hid hlq
              have HRN := Lib.hid hrun
              have hx0 : (0 : Int) ≤ (x : Int) := by omega
              have hx23 : (x : Int) ≤ 23 := by omega
              cases hb : s.testBit x with
              | false =>
                have hand := shr_no HS16.out hb
                have HE := Lib.hid (run_no (l := l) (a := s) (d := d) (x := x) (s := sq) (by rw [hb]; rfl) f)
                have HQR : Hid (q = R) := Lib.hid (by have h := HRN.out; rw [HE.out] at h; omega)
                clear hb hb7 hrun hsq hlq
                go_wp2
                all_goals
                  go_roundw
                  case rel => exact ⟨d + 1, by omega, by go_num, by have h1 := HGK.out; have h2 := HQR.out; have h3 := HBE.out; congr 1; omega, HB4.out.trans ((hb6.trans (HB7.out.mono hb6.size)).mono HB4.out.size)⟩
                  case measure => simp [intOf]; omega
              | true =>
                have hand := shr_yes HS16.out hb
                cases hb2 : sq.testBit x with
                | true =>
                  have hand2 := shr_yes hsq hb2
                  have HE := Lib.hid (run_no (l := l) (a := s) (d := d) (x := x) (s := sq) (by rw [hb, hb2]; rfl) f)
                  have HQR : Hid (q = R) := Lib.hid (by have h := HRN.out; rw [HE.out] at h; omega)
                  clear hb hb2 hb7 hrun hsq hlq
                  go_wp2
                  all_goals
                    go_roundw
                    case rel => exact ⟨d + 1, by omega, by go_num, by have h1 := HGK.out; have h2 := HQR.out; have h3 := HBE.out; congr 1; omega, HB4.out.trans ((hb6.trans (HB7.out.mono hb6.size)).mono HB4.out.size)⟩
                    case measure => simp [intOf]; omega
                | false =>
                  have hand2 := shr_no hsq hb2
                  have hf0 : f ≠ 0 := fun e => by
                    have := full_bit hsq (by omega) (show x < 24 by omega)
                    rw [hb2] at this
                    cases this
                  obtain ⟨g, rfl⟩ : ∃ g, f = g + 1 := ⟨f - 1, by omega⟩
                  have h1 := run_yes (l := l) (d := d) (f := g) hb hb2
                  have h2 := or_len hsq (show x < 24 by omega) hb2
                  have h3 := HAD.out x d
                  have h4 := HAL.out x d
                  obtain ⟨z, hz⟩ : ∃ z, adN l x d = z := ⟨_, rfl⟩
                  rw [hz] at h1 h3 h4
                  have HA3 := Lib.hid h3
                  have HOR := or_step (O := sq) (V := (x : Int)) hsq (by omega) (by omega)
                  rw [Int.toNat_natCast] at HOR
                  have H1 := Lib.hid h1
                  have H2 := Lib.hid h2
                  have hsq2 : Hid (sq ||| 2 ^ x < 2 ^ 24) := Lib.hid (Nat.or_lt_two_pow hsq (Nat.pow_lt_pow_right (by decide) (by omega)))
                  clear hb hb2 hb7 hrun hsq hlq h1 h2 h3 hz hf0
                  go_wp2_with (go_at_call 28; refine (sAdd _ _ l _ _ (x : Int) (d : Int) hx0 hx23 hd0 hd23 HN.out HG.out HI7.out).mono ?_; rw [HA3.out]; rintro e w8 ⟨rfl, hb8⟩)
                  go_roundw
                  case rel => exact ⟨q + 1, g, sq ||| 2 ^ x, z, by go_num, rfl, rfl, by omega, hsq2.out, by rw [H2.out, HLQ.out], h4, by have := HRN.out; rw [H1.out] at this; omega, HB7.out.trans (hb8.mono HB7.out.size)⟩
                  case measure => simp [intOf]; omega
          · obtain rfl : d = P := by omega
            have hdi : ¬ (d : Int) < (d : Int) := by omega
            clear hb4
            go_wp2_with (go_at_call 27; refine (sOrder _ _ l _ _ HN.out HG.out HIb.out).mono ?_; rw [HP.out]; rintro e w6 ⟨rfl, hb6⟩)
            go_roundw
            case rel => exact ⟨k + 1, by omega, by go_num, by rw [HFK.out], HBL.out.trans ((HB4.out.trans (hb6.mono HB4.out.size)).mono HBL.out.size)⟩
            case measure => simp [intOf]; omega
      · obtain rfl : k = c := by omega
        have hki : ¬ (k : Int) < (k : Int) := by omega
        clear hbel
        go_wp2
        go_ret
        exact ⟨rfl, HB.out.trans ((T3.out.trans (HBL.out.mono T3.out.size)).mono (by simp))⟩
end Go.Proofs.Ytfkleihnafeoeaa
