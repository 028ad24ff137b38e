/- The drawing of a set. -/
import Derived.Test.YticgoodmfjjggaaGreatDoorDRAWB
import Derived.Test.YticgoodmfjjggaaGreatDoorOrI
namespace Go.Proofs.YticgoodmfjjggaaGreatDoor
open Go.RowKit
set_option maxRecDepth 1000000
theorem pow_fit {k : Nat} (h : k ≤ 24) : ∃ P : Int, wrap64 ((2 : Int) ^ k) = P ∧ 1 ≤ P ∧ P ≤ 16777216 := by
  have h1 := pow_le24 h
  have h2 : 1 ≤ 2 ^ k := Nat.one_le_two_pow
  exact ⟨_, wrap_pow h, by omega, by omega⟩
set_option maxHeartbeats 4000000 in
theorem l3Set_any (w : World) (C : Nat) (a : Option Addr) (len cap : Nat) (l : List Int) (b : Option Addr) (n cp : Nat) (hn : n = l.length) (hm : n ≤ 9223372036854775807) (hi : Ints w b l) (hlen : len ≤ 1048576) (hc : CurAt w C a len cap) (hd : DataAt w C a len) :
    Calls Tryz.prog 132 #[.pointer (some ⟨C, 0, none⟩), .agg #[.slice b n cp]] w (AnyInt w C a len cap) := by
  have HC := Lib.hid hc
  have HD := Lib.hid hd
  have HN := Lib.hid hn
  have hCw : C < w.heap.size := hc.lt
  have HI := Lib.hid (ints_alloc hi (.cells #[.slice b n cp] 26))
  have HG0 := Lib.hid (World.grownBy_alloc w (.cells #[.slice b n cp] 26) (some C))
  have HCA := Lib.hid (HC.out.other (heap_alloc_old w (.cells #[.slice b n cp] 26) hCw))
  have C1 := newC w (.slice b n cp) 26 (n := w.heap.size) rfl
  have HOR := Lib.hid (sOrderOf _ b l n cp HN.out hm HI.out)
  have HL := Lib.hid (ordN_le l)
  clear hc hd hi hn
  obtain ⟨N, HNN⟩ : ∃ N, Hid (ordN l = N) := ⟨_, Lib.hid rfl⟩
  rw [HNN.out] at HOR HL
  have hN := HL.out
  go_enter Tryz.func132, Tryz.ntmps132
  go_wp2_with (go_at_call 10; refine HOR.out.mono ?_; rintro e w2 ⟨rfl, hb2⟩)
  all_goals
    have HG2 := Lib.hid (grownC_trans HG0.out (below_grown hb2 (row := some C)))
    have hC1 : C < (w.alloc (.cells #[.slice b n cp] 26)).heap.size := by simp; omega
    obtain ⟨M, HM⟩ : ∃ M : Int, Hid (max 1 N = M) := ⟨_, Lib.hid rfl⟩
    have hM1 : 1 ≤ M := by have := HM.out; omega
    have hM2 : M ≤ 24 := by have := HM.out; omega
    first | rw [HM.out] | rw [show N = M from by have := HM.out; omega] | rw [show (1 : Int) = M from by have := HM.out; omega]
    refine (below_small w2 C a len cap 6 hlen (HCA.out.other (hb2.block C hC1)) (HD.out.grown HG2.out) (by omega) (by omega)).mono ?_
    rintro e w3 ⟨x, rfl, hx0, hx1, hcur, hg⟩
    have HC3 := Lib.hid hcur
    have HG3 := Lib.hid (grownC_trans HG2.out hg)
    clear hcur hg hb2 HCA HOR
    go_wp2
    go_loopw [6, 7] (fun aa kk wr => ∃ (A : Nat) (k : Int), aa = .int .i64 (A : Nat) ∧ kk = .int .i64 k ∧ 0 ≤ k ∧ k ≤ 5 ∧ Hid (A < 16777216) ∧ CurAt wr C a len cap ∧ w.grownBy wr (some C)) (fun _ kk _ => (intOf kk).toNat)
    case atStart => exact ⟨0, x, rfl, rfl, hx0, by omega, Lib.hid (by decide), HC3.out, HG3.out⟩
    case round =>
      obtain ⟨A, k, rfl, rfl, hk0, hk5, HA, hcur, hg⟩ := hrel
      have HCr := Lib.hid hcur
      have HGr := Lib.hid hg
      clear hcur hg
      by_cases hk : 0 < k
      · go_wp2_with (fail)
        refine (below_small _ C a len cap M hlen HCr.out (HD.out.grown HGr.out) (by omega) (by omega)).mono ?_
        rintro e w5 ⟨y, rfl, hy0, hy1, hcur, hg⟩
        have HC5 := Lib.hid hcur
        have HG5 := Lib.hid (grownC_trans HGr.out hg)
        clear hcur hg
        have HOS := Lib.hid (or_step HA.out hy0 (by omega))
        have HA2 : Hid (A ||| 2 ^ y.toNat < 16777216) := Lib.hid (Nat.or_lt_two_pow (n := 24) HA.out (Nat.pow_lt_pow_right (by decide) (by omega)))
        go_wp2
        go_roundw
        case rel => exact ⟨A ||| 2 ^ y.toNat, k - 1, by rw [HOS.out], rfl, by omega, by omega, HA2, HC5.out, HG5.out⟩
        case measure => simp [intOf]; omega
      · go_wp2_with (fail)
        refine (below_small _ C a len cap 20 hlen HCr.out (HD.out.grown HGr.out) (by omega) (by omega)).mono ?_
        rintro e w5 ⟨y, rfl, hy0, hy1, hcur, hg⟩
        have HC5 := Lib.hid hcur
        have HG5 := Lib.hid (grownC_trans HGr.out hg)
        clear hcur hg
        by_cases h0 : y = 0
        · have e0 : (y == 0) = true := by simp [h0]
          obtain ⟨P, HP, hP1, hP2⟩ := pow_fit (k := M.toNat) (by omega)
          clear h0
          go_wp2
          go_ret
          exact ⟨_, rfl, by first | omega | (rw [HP]; omega), by first | omega | (rw [HP]; omega), HC5.out, HG5.out⟩
        · have e0 : (y == 0) = false := by simpa using h0
          by_cases h1 : y = 1
          · have e1 : (y == 1) = true := by simp [h1]
            clear h0 h1
            go_wp2_with (fail)
            refine (pick_any _ C a len cap w5.heap.size 3 3 hlen ?h1 ?h2 (by omega) (by omega) ?h3 ?h4).mono ?_
            case h1 => exact HC5.out.other (heap_alloc_old w5 _ HC5.out.lt)
            case h2 => exact (HD.out.grown HG5.out).grown (World.grownBy_alloc w5 _ _)
            case h3 => have := HC5.out.lt; omega
            case h4 =>
              intro i hi
              have : ∃ z : Int, -9223372036854775808 ≤ z ∧ z ≤ 9223372036854775807 ∧ (#[.int .i64 (-1), .int .i64 16777216, .int .i64 9223372036854775807] : Array Value)[i]? = some (.int .i64 z) := by
                match i, hi with
                | 0, _ => exact ⟨-1, by decide, by decide, rfl⟩
                | 1, _ => exact ⟨16777216, by decide, by decide, rfl⟩
                | 2, _ => exact ⟨9223372036854775807, by decide, by decide, rfl⟩
              obtain ⟨z, hz0, hz1, hz⟩ := this
              exact ⟨z, hz0, hz1, (World.cell?_alloc_at _ _ _ _ rfl).trans hz⟩
            rintro e w6 ⟨z, rfl, hz0, hz1, hcur, hg⟩
            have HC6 := Lib.hid hcur
            have HG6 := Lib.hid (grownC_trans (grownC_trans HG5.out (World.grownBy_alloc w5 _ _)) hg)
            clear hcur hg
            go_wp2
            go_ret
            exact ⟨_, rfl, hz0, hz1, HC6.out, HG6.out⟩
          · have e1 : (y == 1) = false := by simpa using h1
            clear h0 h1
            go_wp2
            go_ret
            exact ⟨_, rfl, by omega, by have := HA.out; omega, HC5.out, HG5.out⟩
end Go.Proofs.YticgoodmfjjggaaGreatDoor
