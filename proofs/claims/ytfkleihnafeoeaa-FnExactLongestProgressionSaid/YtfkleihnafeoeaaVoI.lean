/- The program's own steps of a set, and its longest run. -/
import Derived.Test.YtfkleihnafeoeaaVoRun
import Derived.Test.YtfkleihnafeoeaaSetIn
import Derived.Deep.LoopGhost
import Derived.WalkMore
namespace Go.Proofs.Ytfkleihnafeoeaa
open Go.RowKit
set_option maxRecDepth 1000000
set_option maxHeartbeats 4000000 in
theorem iLng (w : World) (a : Option Addr) (l : List Int) (n cap : Nat) (s : Int) (hn : n = l.length) (hm : n ≤ 9223372036854775807) (hi : Ints w a l) :
    Calls Try.prog 12 #[.agg #[.slice a n cap], .int .i64 s] w fun e w' => e = .returned (.int .i64 (lngE l s)) ∧ Below w.heap.size w w' := by
  have HI := Lib.hid (ints_alloc hi (.cells #[.slice a n cap] 27))
  have HN := Lib.hid hn
  have C1 := newC w (.slice a n cap) 27 (n := w.heap.size) rfl
  have HB := Lib.hid (Joins.below_alloc1 w (.cells #[.slice a n cap] 27))
  have T0 := Lib.hid (Below.refl (w.alloc (.cells #[.slice a n cap] 27)).heap.size (w.alloc (.cells #[.slice a n cap] 27)))
  clear hi hn
  cases hs : isS l s with
  | false =>
    have HS := Lib.hid hs
    rw [show lngE l s = -1 by unfold lngE; rw [if_neg (by simp [hs])]]
    clear hs
    go_enter Try.func12, Try.ntmps12
    go_wp2_with (go_at_call 29; refine (iSetIn_no _ _ _ _ _ _ HN.out hm (HI.out.below rfl T0.out) HS.out).mono ?_; rintro e w1 ⟨rfl, hb1⟩; have TA := Lib.hid ((HB.out.trans (hb1.mono (by simp))).alloc (Nat.le_trans (by simp) hb1.size) (.cells #[.int .i64 0, .int .i64 0, .int .i64 0] 40)); have HAL := Lib.hid (heap_alloc_new w1 (.cells #[.int .i64 0, .int .i64 0, .int .i64 0] 40)); obtain ⟨y0, y1, y2, _, _, _⟩ := trip_cell HAL.out)
    go_ret
    exact ⟨rfl, TA.out⟩
  | true =>
    have HS := Lib.hid hs
    obtain ⟨hg, s, rfl, hsn, hs24⟩ := isS_true hs
    rw [show lngE l (s : Int) = ((lngN l s : Nat) : Int) by unfold lngE; rw [if_pos hs, Int.toNat_natCast], lng_swap hg hsn]
    have hp := (ords_grp hg).prod
    have HP := prod_pad (grpB_true hg).1
    have HRN := Lib.hid (fun (W : World) (x d : Nat) hx hd => iRun hg W s x d hsn hx hd)
    have HPR := Lib.hid (fun (W : World) => iProduct W _ _ _ (tri_grp hg))
    have HRL : Hid (∀ x d, runN l s d 24 x 0 ≤ 24) := Lib.hid (fun x d => by
      have := run_le (l := l) (d := d) hs24 24 x 0 (by decide) (fun i hi => by simp at hi)
      have : (bitsN s).length ≤ 24 := upK_len s 24
      omega)
    rw [← HP] at HPR
    obtain ⟨N, hNN⟩ : ∃ N : Nat, (prodI l).toNat = N := ⟨_, rfl⟩
    have hpN : prodI l = (N : Int) := by omega
    rw [hNN] at HRN ⊢
    rw [hpN] at HPR
    have hN24 : N ≤ 24 := by omega
    have HFS := Lib.hid (fun k => show mxN (fun d => mxN (fun x => runN l s d 24 x 0) N) (k + 1) = max (mxN (fun d => mxN (fun x => runN l s d 24 x 0) N) k) (mxN (fun x => runN l s k 24 x 0) N) from rfl)
    have HFB : Hid (∀ k, mxN (fun d => mxN (fun x => runN l s d 24 x 0) N) k ≤ 24) := Lib.hid (fun k => mx_le k (fun i _ => mx_le N (fun x _ => HRL.out x i)))
    have HF0 : Hid (mxN (fun d => mxN (fun x => runN l s d 24 x 0) N) 0 = 0) := Lib.hid rfl
    obtain ⟨FF, hFF⟩ : ∃ f, mxN (fun d => mxN (fun x => runN l s d 24 x 0) N) = f := ⟨_, rfl⟩
    rw [hFF] at HFS HFB HF0 ⊢
    obtain ⟨p, EP⟩ : ∃ p, Hid (l.getD 0 1 = p) := ⟨_, Lib.hid rfl⟩
    obtain ⟨q, EQ⟩ : ∃ q, Hid (l.getD 1 1 = q) := ⟨_, Lib.hid rfl⟩
    obtain ⟨r, ER⟩ : ∃ r, Hid (l.getD 2 1 = r) := ⟨_, Lib.hid rfl⟩
    rw [EP.out, EQ.out, ER.out] at HRN HPR
    clear hs hg hs24 hsn hp HP hNN hpN hFF
    go_enter Try.func12, Try.ntmps12
    go_wp2_with (first
      | (go_at_call 30; refine (HPR.out _).mono ?_; rintro e w2 ⟨rfl, hb2⟩; have T2 := Lib.hid (TA.out.trans (hb2.mono TA.out.size)); have R2 := Lib.hid (keepH hb2 (Array.getElem?_eq_some_iff.1 HAL.out).1 HAL.out))
      | (go_at_call 29; refine (iSetIn_yes _ _ _ _ _ _ HN.out hm (HI.out.below rfl T0.out) HS.out).mono ?_; rw [EP.out, EQ.out, ER.out]; rintro e w1 ⟨rfl, hb1⟩; have TA := Lib.hid ((HB.out.trans (hb1.mono (by simp))).alloc (Nat.le_trans (by simp) hb1.size) (.cells #[.int .i64 p, .int .i64 q, .int .i64 r] 40)); have HAL := Lib.hid (heap_alloc_new w1 (.cells #[.int .i64 p, .int .i64 q, .int .i64 r] 40)); obtain ⟨y0, y1, y2, _, _, _⟩ := trip_cell HAL.out))
    have hwb : w.heap.size ≤ w1.heap.size := by have := hb1.size; simp at this; omega
    go_loopw [8, 22] (fun b i wr => ∃ k : Nat, k ≤ N ∧ i = .int .i64 k ∧ b = .int .i64 (FF k : Nat) ∧ Hid (Below w.heap.size w wr) ∧ Hid (wr.heap[w1.heap.size]? = some (.cells #[.int .i64 p, .int .i64 q, .int .i64 r] 40 (0, 0)))) (fun _ i _ => N - (intOf i).toNat)
    case atStart => exact ⟨0, Nat.zero_le _, rfl, by rw [HF0.out]; rfl, T2, R2⟩
    case round =>
      obtain ⟨k, hk, rfl, rfl, HBW, HGW⟩ := hrel
      have hfb := HFB.out k
      by_cases hlt : k < N
      · have hki : (k : Int) < (N : Int) := by omega
        have HFK := Lib.hid (HFS.out k)
        have HGS := Lib.hid (fun x => show mxN (fun x => runN l s k 24 x 0) (x + 1) = max (mxN (fun x => runN l s k 24 x 0) x) (runN l s k 24 x 0) from rfl)
        have HGB : Hid (∀ x, mxN (fun x => runN l s k 24 x 0) x ≤ 24) := Lib.hid (fun x => mx_le x (fun y _ => HRL.out y k))
        have HG0 : Hid (mxN (fun x => runN l s k 24 x 0) 0 = 0) := Lib.hid rfl
        obtain ⟨GG, hGG⟩ : ∃ f, mxN (fun x => runN l s k 24 x 0) = f := ⟨_, rfl⟩
        rw [hGG] at HGS HGB HG0 HFK
        obtain ⟨B0, hB0⟩ : ∃ b, FF k = b := ⟨_, rfl⟩
        rw [hB0] at HFK hfb
        rw [hB0]
        obtain ⟨e0, e1, e2, _, _, _⟩ := trip_cell HGW.out
        clear hGG hB0
        go_wp2_with (go_at_call 30; refine (HPR.out _).mono ?_; rintro e w3 ⟨rfl, hb3⟩; have T3 := Lib.hid (HBW.out.trans (hb3.mono HBW.out.size)); have R3 := Lib.hid (keepH hb3 (Array.getElem?_eq_some_iff.1 HGW.out).1 HGW.out))
        go_loopw [8, 27] (fun b i wr => ∃ j : Nat, j ≤ N ∧ i = .int .i64 j ∧ b = .int .i64 (max B0 (GG j) : Nat) ∧ Hid (Below w.heap.size w wr) ∧ Hid (wr.heap[w1.heap.size]? = some (.cells #[.int .i64 p, .int .i64 q, .int .i64 r] 40 (0, 0)))) (fun _ i _ => N - (intOf i).toNat)
        case atStart => exact ⟨0, Nat.zero_le _, rfl, by rw [HG0.out, Nat.max_eq_left (Nat.zero_le _)], T3, R3⟩
        case round =>
          obtain ⟨j, hj, rfl, rfl, HBX, HGX⟩ := hrel
          have hgb := HGB.out j
          by_cases hjl : j < N
          · have hji : (j : Int) < (N : Int) := by omega
            have HGJ := Lib.hid (HGS.out j)
            have HR := Lib.hid (fun (W : World) => HRN.out W j k hjl hlt)
            have hrl := HRL.out j k
            obtain ⟨R, hRR⟩ : ∃ R, runN l s k 24 j 0 = R := ⟨_, rfl⟩
            rw [hRR] at HR HGJ hrl
            obtain ⟨BE, hBE⟩ : ∃ b, max B0 (GG j) = b := ⟨_, rfl⟩
            have HBE := Lib.hid hBE
            have hbe : BE ≤ 24 := by omega
            rw [hBE]
            obtain ⟨f0, f1, f2, _, _, _⟩ := trip_cell HGX.out
            clear hRR hBE
            go_wp2_with (go_at_call 31; refine (HR.out _).mono ?_; rintro e w4 ⟨rfl, hb4⟩; have T4 := Lib.hid (HBX.out.trans (hb4.mono HBX.out.size)); have R4 := Lib.hid (keepH hb4 (Array.getElem?_eq_some_iff.1 HGX.out).1 HGX.out))
            all_goals
              go_roundw
              case rel => exact ⟨j + 1, by omega, by go_num, by have h1 := HGJ.out; have h3 := HBE.out; congr 1; omega, T4, R4⟩
              case measure => simp [intOf]; omega
          · obtain rfl : j = N := by omega
            have hji : ¬ (j : Int) < (j : Int) := by omega
            go_wp2
            go_roundw
            case rel => exact ⟨k + 1, by omega, by go_num, by rw [HFK.out], HBX, HGX⟩
            case measure => simp [intOf]; omega
      · obtain rfl : k = N := by omega
        have hki : ¬ (k : Int) < (k : Int) := by omega
        go_wp2
        go_ret
        exact ⟨rfl, HBW.out⟩
end Go.Proofs.Ytfkleihnafeoeaa
