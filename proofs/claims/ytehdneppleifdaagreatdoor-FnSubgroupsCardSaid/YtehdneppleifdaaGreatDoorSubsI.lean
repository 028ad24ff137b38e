/- The program's own list of all subgroups. -/
import Derived.Test.YtehdneppleifdaaGreatDoorMGAL
import Derived.Test.YtehdneppleifdaaGreatDoorMGAR
import Derived.Test.YtehdneppleifdaaGreatDoorMGAQ
namespace Go.Proofs.YtehdneppleifdaaGreatDoor
open Go.RowKit Go.Shelf Go.Maps
set_option maxRecDepth 1000000
theorem ranges_below {w w' : World} {b r n B : Nat} {D : DataW Unit} {left : Lit → Bool} {cnt : Nat} (h : w.ranges Tryz.prog 43 RB b r n D left cnt) (hk : Below B w w') (hb : b < B) (hr : r < B) : w'.ranges Tryz.prog 43 RB b r n D left cnt := by
  obtain ⟨es, clock, since, seen, c0, h1, F, hs, hD, h2, rest⟩ := h
  exact ⟨es, clock, since, seen, c0, (hk.block b hb).trans h1, F, hs, hD, (hk.block r hr).trans h2, rest⟩
theorem below_at {B g : Nat} {a b c : World} (h : Below B a b) (hg : b.grownBy c (some g)) (hB : B ≤ g) (hs : B ≤ b.heap.size) : Below B a c :=
  h.trans ((Below.refl B b).grown hg hs (fun q hq => by cases hq; exact hB))
set_option maxHeartbeats 8000000 in
theorem iSubs {l : List Int} (hg : grpB l = true) (w : World) (L : List Nat) (hL : SgList l L) :
    Calls Tryz.prog 38 #[tV (l.getD 0 1) (l.getD 1 1) (l.getD 2 1)] w fun e w' => ∃ v, e = .returned v ∧ (∃ g cap, v = .slice (some ⟨g, 0, none⟩) L.length cap ∧ w.heap.size ≤ g) ∧ w'.ownsRow w.heap.size 43 1 v L.length (L.map eV) ∧ Below w.heap.size w w' := by
  obtain ⟨C, hC⟩ := clo_fun hg
  have hP := (ords_grp hg).prod
  obtain ⟨P, hPe⟩ : ∃ P : Nat, prodI l = (P : Int) := ⟨(prodI l).toNat, by omega⟩
  have hPn : (prodI l).toNat = P := by omega
  have HK0 := Lib.hid (fun c => known_zero hg c)
  have HKS := Lib.hid (fun x (hx : x < P) c => known_step hg hC (x := x) (by rw [hPn]; exact hx) c)
  have HKE : Hid (∀ c, c ∈ L ↔ Known l P c) := Lib.hid (fun c => by rw [← hPn, known_end hg, hL.2]; exact ⟨fun h => h.2, fun h => ⟨hg, h⟩⟩)
  have HKL := Lib.hid (fun x c (h : Known l x c) => h.lt hg)
  have HEX := Lib.hid (fun (W : World) (x h : Nat) (hx : x < P) (hk : Known l x h) => show Calls Tryz.prog 61 #[tV (l.getD 0 1) (l.getD 1 1) (l.getD 2 1), .int .u64 h, .int .i64 x] W fun e w' => e = .returned (.int .u64 ((C (h ||| 2 ^ x) : Nat) : Int)) ∧ Below W.heap.size W w' from by
    obtain ⟨a, ha, hc⟩ := hk
    have hle : a < 2 ^ (prodI l).toNat := Nat.lt_of_lt_of_le ha (Nat.pow_le_pow_right (by decide) (by omega))
    have hxx : 2 ^ x < 2 ^ (prodI l).toNat := Nat.pow_lt_pow_right (by decide) (by omega)
    exact iExtend hg W a h x _ hle hc (by omega) ((clo_or hg hle hc).2 (hC _ (grp_pow hg (Nat.or_lt_two_pow hc.lt hxx)))))
  have HPR := Lib.hid (fun (W : World) => iProduct W _ _ _ (tri_grp hg))
  rw [← prod_pad (grpB_true hg).1, hPe] at HPR
  rw [hPe] at hP
  have hP24 : P ≤ 24 := by omega
  obtain ⟨p, EP⟩ : ∃ p, Hid (l.getD 0 1 = p) := ⟨_, Lib.hid rfl⟩
  obtain ⟨q, EQ⟩ : ∃ q, Hid (l.getD 1 1 = q) := ⟨_, Lib.hid rfl⟩
  obtain ⟨r, ER⟩ : ∃ r, Hid (l.getD 2 1 = r) := ⟨_, Lib.hid rfl⟩
  rw [EP.out, EQ.out, ER.out] at HEX HPR
  rw [EP.out, EQ.out, ER.out]
  have HLS := Lib.hid hL.1
  -- the box of the orders, the two maps
  have HAL := Lib.hid (heap_alloc_new w (.cells #[.int .i64 p, .int .i64 q, .int .i64 r] 41))
  obtain ⟨W1, hW1⟩ : ∃ W, W = w.alloc (.cells #[.int .i64 p, .int .i64 q, .int .i64 r] 41) := ⟨_, rfl⟩
  rw [← hW1] at HAL
  have hs1 : W1.heap.size = w.heap.size + 1 := by rw [hW1, World.size_alloc]
  have HBW : Hid (Below w.heap.size w W1) := Lib.hid (by rw [hW1]; exact Joins.below_alloc1 w _)
  have hm1 : (Instr.makeMap 72 none).run Tryz.prog W1 = .ok (.map (some (w.heap.size + 1))) (W1.alloc (.map #[] 0)) := by rw [← hs1]; exact run_makeMap 72 W1
  have hk1 := KS.made W1
  rw [hs1] at hk1
  obtain ⟨W2, hi2, hk2, hg2⟩ := hk1.store (show 1 < 16777216 by decide) true
  have c1 : ((1 : Nat) : Int) = 1 := rfl
  rw [c1] at hi2
  have hs2 : w.heap.size + 2 ≤ W2.heap.size := by
    have := hg2.size
    rw [World.size_alloc, hs1] at this
    omega
  obtain ⟨eb, heb⟩ : ∃ b, W2.heap.size = b := ⟨_, rfl⟩
  have hm3 : (Instr.makeMap 72 none).run Tryz.prog W2 = .ok (.map (some eb)) (W2.alloc (.map #[] 0)) := by rw [← heb]; exact run_makeMap 72 W2
  have hk3 := KS.made W2
  rw [heb] at hk3
  obtain ⟨kb, hkb⟩ : ∃ b, b = w.heap.size + 1 := ⟨_, rfl⟩
  rw [← hkb] at hm1 hi2 hk1 hk2 hg2
  have HB2 : Hid (Below kb W1 W2) := Lib.hid (below_at ((Below.refl kb W1).alloc (by omega) _) hg2 (Nat.le_refl _) (by rw [World.size_alloc]; omega))
  have HB3 : Hid (Below kb W1 (W2.alloc (.map #[] 0))) := Lib.hid (HB2.out.alloc (by omega) _)
  have HKA : Hid (KS (W2.alloc (.map #[] 0)) kb (Known l 0)) := Lib.hid ((hk2.kept (World.grownBy_alloc W2 _ none) (by simp)).congr (fun x => by rw [HK0.out x]; simp))
  have HKB : Hid (KS (W2.alloc (.map #[] 0)) eb (fun _ => False)) := Lib.hid hk3
  have hke : kb < eb := by omega
  have hkw : w.heap.size < kb := by omega
  obtain ⟨W3, hW3⟩ : ∃ W, W = W2.alloc (.map #[] 0) := ⟨_, rfl⟩
  rw [← hW3] at hm3 HB3 HKA HKB
  have HS3 : Hid (eb < W3.heap.size) := Lib.hid HKB.out.lt
  have HW1 := Lib.hid hW1
  have HKBE := Lib.hid hkb
  have hW1r := hW1.symm
  clear hk1 hk2 hk3 hg2 hs1 hs2 heb hW3 hkb hg hP hPn hC hL hPe hW1
  go_enter Tryz.func38, Tryz.ntmps38
  obtain ⟨d0, d1, d2, _, _, _⟩ := trip_cell (keepH HB3.out hkw HAL.out)
  go_wp2_with (go_at_call 53; refine (HPR.out _).mono ?_; rintro e w4 ⟨rfl, hb4⟩; have U4 := Lib.hid hb4; clear hb4)
  clear d0 d1 d2
  go_loopw [5, 6, 12] (fun _ _ i wr => ∃ x : Nat, i = .int .i64 x ∧ x ≤ P ∧ KS wr kb (Known l x) ∧ KS wr eb (fun _ => False) ∧ Below kb W1 wr) (fun _ _ i _ => P - (intOf i).toNat)
  case atStart => exact ⟨0, rfl, by omega, HKA.out.below U4.out (by have := HS3.out; omega), HKB.out.below U4.out HS3.out, HB3.out.trans (U4.out.mono (by have := HS3.out; omega))⟩
  case round =>
    obtain ⟨x, rfl, hxP, hka, hkb, hbw⟩ := hrel
    have HKA2 := Lib.hid hka
    have HKB2 := Lib.hid hkb
    have HBW2 := Lib.hid hbw
    have hea := hkb.lt
    clear hka hkb hbw
    by_cases hxl : x < P
    · have hxl' : (x : Int) < (P : Int) := by omega
      obtain ⟨D, hown, hDS, hlt⟩ := HKA2.out
      have HDS := Lib.hid hDS
      have HLT := Lib.hid hlt
      clear hDS hlt
      obtain ⟨wa, rfl⟩ : ∃ W, W = wr := ⟨wr, rfl⟩
      have hwa : Hid (kb < wa.heap.size) := Lib.hid (by omega)
      go_wp2_with (first
        | (at_range; refine wpList_range_own _ rfl _ 72 rfl 43 4 keyedK Tryz.underlying72 RB kb 16777216 _ rfl hown ?_; intro w5 hrg5 hg5 hs5)
        | go_in)
      have HK5 : Hid (KS w5 eb (fun _ => False)) := Lib.hid (HKB2.out.kept hg5 (by simp))
      have HB5 : Hid (Below kb W1 w5) := Lib.hid (HBW2.out.trans ((Below.refl kb wa).grown hg5 (Nat.le_of_lt hwa.out) (fun q hq => by cases hq)))
      clear hown hg5 hs5
      go_frame
      go_loopw [6] (fun _ wr => ∃ (left : Lit → Bool) (cnt : Nat) (ss : List Nat), wr.ranges Tryz.prog 43 RB kb wa.heap.size 16777216 D left cnt ∧ Met D left ss ∧ KS wr eb (fun y => ∃ h, h ∈ ss ∧ y = C (h ||| 2 ^ x)) ∧ Below kb W1 wr) (fun _ wr => wr.rangeLeft kb wa.heap.size)
      case atStart => exact ⟨_, _, [], hrg5, Met.start D, HK5.out.congr (fun y => ⟨fun h => h.elim, fun h => by obtain ⟨_, h, _⟩ := h; cases h⟩), HB5.out⟩
      case round =>
        obtain ⟨left, cnt, ss, hrg, hM, hke, hbw⟩ := hrel
        have HM := Lib.hid hM
        have HKX := Lib.hid hke
        have HBX := Lib.hid hbw
        have HRG := Lib.hid hrg
        clear hM hke hbw hrg5
        obtain ⟨wb, rfl⟩ : ∃ W, W = wr := ⟨wr, rfl⟩
        go_wp2_with (first
          | (at_next; refine wpList_next_ranges _ rfl _ rfl 43 keyedK RB (fun x : Nat => Value.int .u64 ((x : Nat) : Int)) id (fun key kl hk => by obtain ⟨x, hx, _⟩ := key_inv hk; exact ⟨x, hx⟩) (fun v _ _ => ⟨v, rfl⟩) kb wa.heap.size 16777216 _ _ _ rfl hrg ?_ ?_)
          | go_in)
        · intro hc0 hl0
          have HSS : Hid (∀ h, h ∈ ss ↔ Known l x h) := Lib.hid (fun h => by
            rw [HM.out.mem, hl0]
            simp [HDS.out h])
          have CCP := Lib.hid (iCopy wb kb eb _ _ (show KS wb kb (Known l x) from ⟨D, HRG.out.owns, HDS.out, HLT.out⟩) HKX.out (by omega))
          clear hrg hl0 hc0
          go_wp2_with (go_at_call 66; refine CCP.out.mono ?_; rintro e w6 ⟨rfl, hk6, hx6, hg6⟩; obtain ⟨w7, hcl, hk7, hg7⟩ := hx6.clear 0; have HK6 := Lib.hid hk6; have HG6 := Lib.hid hg6; have HK7 := Lib.hid hk7; have HG7 := Lib.hid hg7; clear hk6 hx6 hg6 hk7 hg7)
          go_roundw
          case rel =>
            refine ⟨x + 1, by go_num, by omega, (HK6.out.kept HG7.out (by simp; omega)).congr (fun y => ?_), HK7.out, below_at (below_at HBX.out HG6.out (Nat.le_refl _) ?_) HG7.out (by omega) ?_⟩
            · rw [HKS.out x hxl y]
              exact ⟨fun h => h.imp id (fun ⟨k, h1, h2⟩ => ⟨k, (HSS.out k).1 h1, h2⟩), fun h => h.imp id (fun ⟨k, h1, h2⟩ => ⟨k, (HSS.out k).2 h1, h2⟩)⟩
            · have := HKX.out.lt; omega
            · have := HK6.out.lt; omega
          case measure => first | (simp [intOf]; done) | (simp [intOf]; omega) | omega
        · intro h c kl yd yp w2 cnt2 hkey hlk hv hat hrg2 hlt hg2 hs2 hen
          obtain ⟨x', ex, rfl, hx64⟩ := key_inv hkey
          obtain rfl : h = x' := by
            injection ex with _ e
            omega
          have hkn : Known l x h := (HDS.out h).1 (HM.out.sub h hlk)
          obtain ⟨z, hz⟩ : ∃ z, C (h ||| 2 ^ x) = z := ⟨_, rfl⟩
          have HE := Lib.hid (HEX.out w2 x h hxl hkn)
          rw [hz] at HE
          have hz24 : z < 16777216 := HKL.out (x + 1) z ((HKS.out x hxl z).2 (.inr ⟨h, hkn, hz.symm⟩))
          have hr2 := HRG.out.lt
          have HB2x : Hid (Below kb W1 w2) := Lib.hid (below_at HBX.out hg2 (Nat.le_of_lt hwa.out) (by have := HKX.out.lt; omega))
          have HX2 : Hid (KS w2 eb (fun y => ∃ h, h ∈ ss ∧ y = C (h ||| 2 ^ x))) := Lib.hid (HKX.out.kept hg2 (by simp; omega))
          have HRG2 := Lib.hid hrg2
          have HLK := Lib.hid hlk
          have HCN := Lib.hid hlt
          have HZ := Lib.hid hz
          have HKN := Lib.hid hkn
          obtain ⟨d0, d1, d2, _, _, _⟩ := trip_cell (keepH HB2x.out hkw HAL.out)
          clear hs2 hrg2 hg2 hlk hlt hkey hv hat hrg hz hkn hr2
          go_wp2_with (go_at_call 61; refine HE.out.mono ?_; rintro e w3 ⟨rfl, hb3⟩; have HB3x := Lib.hid hb3; obtain ⟨w4, hru, hk4, hg4⟩ := (HX2.out.below hb3 HX2.out.lt).store hz24 true; have HK4 := Lib.hid hk4; have HG4 := Lib.hid hg4; clear hb3 hk4 hg4)
          have HR4 : Hid (w4.ranges Tryz.prog 43 RB kb wa.heap.size 16777216 D (fun z => left z && !z.sameKey (kL h)) cnt2) := Lib.hid ((ranges_below HRG2.out HB3x.out HRG2.out.owns.lt HRG2.out.lt).kept HG4.out (by simp; omega) (by simp; omega))
          go_roundw
          case rel =>
            refine ⟨_, cnt2, ss ++ [h], HR4.out, HM.out.step HLK.out, HK4.out.congr (fun y => ?_), below_at (HB2x.out.trans (HB3x.out.mono ?_)) HG4.out (by omega) ?_⟩
            · constructor
              · rintro (⟨k, h1, h2⟩ | rfl)
                · exact ⟨k, List.mem_append_left _ h1, h2⟩
                · exact ⟨h, by simp, HZ.out.symm⟩
              · rintro ⟨k, h1, h2⟩
                rcases List.mem_append.1 h1 with h1 | h1
                · exact .inl ⟨k, h1, h2⟩
                · rw [List.mem_singleton] at h1
                  subst h1
                  exact .inr (h2.trans HZ.out)
            · have := HX2.out.lt; omega
            · have := HX2.out.lt; have := HB3x.out.size; omega
          case measure =>
            rw [HR4.out.left_eq, HRG.out.left_eq]; exact HCN.out
    · have hxl' : ¬ (x : Int) < (P : Int) := by omega
      obtain rfl : x = P := by omega
      obtain ⟨D, hown, hDS, hlt⟩ := HKA2.out
      have h1K : Known l x 1 := by
        obtain ⟨a, ha, hc⟩ := (HK0.out 1).2 rfl
        exact ⟨a, Nat.lt_of_lt_of_le ha (Nat.pow_le_pow_right (by decide) (Nat.zero_le _)), hc⟩
      have CS := Lib.hid (iSorted (wr.alloc (.cells #[.map (some kb)] 72)) wr.heap.size kb 16777216 D (Nat.le_refl _) (Boxed.new wr 72 _) (hown.alloc _) ⟨1, (hDS 1).2 h1K⟩)
      have HDS := Lib.hid hDS
      clear hown hDS hlt h1K
      go_wp2_with (first
        | (go_at_call 68; refine (iKeys wr (.map (some kb)) ⟨kb, rfl⟩).mono ?_; rintro e w6 ⟨rfl, hw6⟩; subst hw6)
        | (go_at_call 67; refine CS.out.mono ?_; rintro e w7 ⟨v, Lq, rfl, m1, m2, m3, ⟨g, cap, rfl, hge⟩, m5, m6⟩))
      go_ret
      have hLq : Lq = L := srt_one Lq L m2 HLS.out (fun m => (m1 m).trans ((HDS.out m).trans (HKE.out m).symm))
      subst hLq
      have z1 := HBW.out.size
      have z2 := HBW2.out.size
      have z3 : (wr.alloc (.cells #[.map (some kb)] 72)).heap.size = wr.heap.size + 1 := World.size_alloc _ _
      rw [z3] at hge m6 m5
      exact ⟨_, rfl, ⟨g, cap, rfl, by omega⟩, Joins.ownsRow_le m5 (by omega), (HBW.out.trans (HBW2.out.mono (by omega))).trans (((Below.refl w.heap.size wr).alloc (by omega) _).trans (m6.mono (by omega)))⟩
end Go.Proofs.YtehdneppleifdaaGreatDoor
