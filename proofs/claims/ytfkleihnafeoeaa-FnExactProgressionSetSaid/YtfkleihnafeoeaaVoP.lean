/- The program's own progression as a set, and whether an order is a prime number. -/
import Derived.Test.YtfkleihnafeoeaaVoEl
import Derived.Test.YtfkleihnafeoeaaLdI
namespace Go.Proofs.Ytfkleihnafeoeaa
open Go.RowKit
set_option maxRecDepth 1000000
set_option maxHeartbeats 4000000 in
theorem iPrg (w : World) (a : Option Addr) (l : List Int) (n cap : Nat) (x d m : Int) (hn : n = l.length) (hm : n ≤ 9223372036854775807) (hi : Ints w a l) :
    Calls Try.prog 9 #[.agg #[.slice a n cap], .int .i64 x, .int .i64 d, .int .i64 m] w fun e w' => e = .returned (.int .i64 (prgE l x d m)) ∧ Below w.heap.size w w' := by
  have HI := Lib.hid (ints_alloc hi (.cells #[.slice a n cap] 27))
  have HN := Lib.hid hn
  have C1 := newC w (.slice a n cap) 27 (n := w.heap.size) rfl
  have HB := Lib.hid (Joins.below_alloc1 w (.cells #[.slice a n cap] 27))
  have T0 := Lib.hid (Below.refl (w.alloc (.cells #[.slice a n cap] 27)).heap.size (w.alloc (.cells #[.slice a n cap] 27)))
  clear hi hn
  cases hx : isE l x with
  | false =>
    have HX := Lib.hid hx
    have hpv : prgE l x d m = -1 := by unfold prgE; rw [if_neg (by simp [hx])]
    obtain ⟨by', HD⟩ : ∃ b, Hid (isE l d = b) := ⟨_, Lib.hid rfl⟩
    clear hx
    rw [hpv]
    clear hpv
    go_enter Try.func9, Try.ntmps9
    go_wp2_with (first
      | (go_at_call 20; refine (iIn _ _ _ _ _ d HN.out hm (HI.out.below rfl T1b.out)).mono ?_; unfold InPost; rw [HD.out]; rintro e w2 ⟨p2, q2, r2, u2, v2, s2, rfl, hv2, hb2⟩; clear hv2; have T2 := Lib.hid (T1b.out.trans (hb2.mono T1b.out.size)); have T2a := Lib.hid (T2.out.alloc T2.out.size (.cells #[.int .i64 p2, .int .i64 q2, .int .i64 r2] 40)); have T2b := Lib.hid (T2a.out.alloc T2a.out.size (.cells #[.int .i64 u2, .int .i64 v2, .int .i64 s2] 40)); have N2 := Lib.hid (keepH (Joins.below_alloc1 _ (.cells #[.int .i64 u2, .int .i64 v2, .int .i64 s2] 40)) (by simp) (heap_alloc_new w2 (.cells #[.int .i64 p2, .int .i64 q2, .int .i64 r2] 40))); have M2 : Hid (((w2.alloc (.cells #[.int .i64 p2, .int .i64 q2, .int .i64 r2] 40)).alloc (.cells #[.int .i64 u2, .int .i64 v2, .int .i64 s2] 40)).heap[w2.heap.size + 1]? = some (.cells #[.int .i64 u2, .int .i64 v2, .int .i64 s2] 40 (0, 0))) := Lib.hid (by simpa using heap_alloc_new (w2.alloc (.cells #[.int .i64 p2, .int .i64 q2, .int .i64 r2] 40)) (.cells #[.int .i64 u2, .int .i64 v2, .int .i64 s2] 40)); have c2 := keepC T2.out (by simp <;> omega) C1; have c2b := keepC T2b.out (by simp <;> omega) C1)
      | (go_at_call 20; refine (iIn _ _ _ _ _ x HN.out hm (HI.out.below rfl T0.out)).mono ?_; unfold InPost; rw [HX.out]; rintro e w1 ⟨p, q, r, u, v, s, rfl, hv1, hb1⟩; clear hv1; have T1 := Lib.hid (T0.out.trans (hb1.mono T0.out.size)); have T1a := Lib.hid (T1.out.alloc T1.out.size (.cells #[.int .i64 p, .int .i64 q, .int .i64 r] 40)); have T1b := Lib.hid (T1a.out.alloc T1a.out.size (.cells #[.int .i64 u, .int .i64 v, .int .i64 s] 40)); have N1 := Lib.hid (keepH (Joins.below_alloc1 _ (.cells #[.int .i64 u, .int .i64 v, .int .i64 s] 40)) (by simp) (heap_alloc_new w1 (.cells #[.int .i64 p, .int .i64 q, .int .i64 r] 40))); have M1 : Hid (((w1.alloc (.cells #[.int .i64 p, .int .i64 q, .int .i64 r] 40)).alloc (.cells #[.int .i64 u, .int .i64 v, .int .i64 s] 40)).heap[w1.heap.size + 1]? = some (.cells #[.int .i64 u, .int .i64 v, .int .i64 s] 40 (0, 0))) := Lib.hid (by simpa using heap_alloc_new (w1.alloc (.cells #[.int .i64 p, .int .i64 q, .int .i64 r] 40)) (.cells #[.int .i64 u, .int .i64 v, .int .i64 s] 40)); have c1 := keepC T1.out (by simp <;> omega) C1; have c1b := keepC T1b.out (by simp <;> omega) C1))
    go_ret
    exact ⟨rfl, HB.out.trans (T2b.out.mono (by simp <;> omega))⟩
  | true =>
    have HX := Lib.hid hx
    cases hd : isE l d with
    | false =>
      have HD := Lib.hid hd
      have hpv : prgE l x d m = -1 := by unfold prgE; rw [if_neg (by simp [hd])]
      clear hx hd
      rw [hpv]
      clear hpv
      go_enter Try.func9, Try.ntmps9
      go_wp2_with (first
        | (go_at_call 20; refine (iIn _ _ _ _ _ d HN.out hm (HI.out.below rfl T1b.out)).mono ?_; unfold InPost; rw [HD.out]; rintro e w2 ⟨p2, q2, r2, u2, v2, s2, rfl, hv2, hb2⟩; clear hv2; have T2 := Lib.hid (T1b.out.trans (hb2.mono T1b.out.size)); have T2a := Lib.hid (T2.out.alloc T2.out.size (.cells #[.int .i64 p2, .int .i64 q2, .int .i64 r2] 40)); have T2b := Lib.hid (T2a.out.alloc T2a.out.size (.cells #[.int .i64 u2, .int .i64 v2, .int .i64 s2] 40)); have N2 := Lib.hid (keepH (Joins.below_alloc1 _ (.cells #[.int .i64 u2, .int .i64 v2, .int .i64 s2] 40)) (by simp) (heap_alloc_new w2 (.cells #[.int .i64 p2, .int .i64 q2, .int .i64 r2] 40))); have M2 : Hid (((w2.alloc (.cells #[.int .i64 p2, .int .i64 q2, .int .i64 r2] 40)).alloc (.cells #[.int .i64 u2, .int .i64 v2, .int .i64 s2] 40)).heap[w2.heap.size + 1]? = some (.cells #[.int .i64 u2, .int .i64 v2, .int .i64 s2] 40 (0, 0))) := Lib.hid (by simpa using heap_alloc_new (w2.alloc (.cells #[.int .i64 p2, .int .i64 q2, .int .i64 r2] 40)) (.cells #[.int .i64 u2, .int .i64 v2, .int .i64 s2] 40)); have c2 := keepC T2.out (by simp <;> omega) C1; have c2b := keepC T2b.out (by simp <;> omega) C1)
        | (go_at_call 20; refine (iIn _ _ _ _ _ x HN.out hm (HI.out.below rfl T0.out)).mono ?_; unfold InPost; rw [HX.out]; rintro e w1 ⟨p, q, r, u, v, s, rfl, hv1, hb1⟩; clear hv1; have T1 := Lib.hid (T0.out.trans (hb1.mono T0.out.size)); have T1a := Lib.hid (T1.out.alloc T1.out.size (.cells #[.int .i64 p, .int .i64 q, .int .i64 r] 40)); have T1b := Lib.hid (T1a.out.alloc T1a.out.size (.cells #[.int .i64 u, .int .i64 v, .int .i64 s] 40)); have N1 := Lib.hid (keepH (Joins.below_alloc1 _ (.cells #[.int .i64 u, .int .i64 v, .int .i64 s] 40)) (by simp) (heap_alloc_new w1 (.cells #[.int .i64 p, .int .i64 q, .int .i64 r] 40))); have M1 : Hid (((w1.alloc (.cells #[.int .i64 p, .int .i64 q, .int .i64 r] 40)).alloc (.cells #[.int .i64 u, .int .i64 v, .int .i64 s] 40)).heap[w1.heap.size + 1]? = some (.cells #[.int .i64 u, .int .i64 v, .int .i64 s] 40 (0, 0))) := Lib.hid (by simpa using heap_alloc_new (w1.alloc (.cells #[.int .i64 p, .int .i64 q, .int .i64 r] 40)) (.cells #[.int .i64 u, .int .i64 v, .int .i64 s] 40)); have c1 := keepC T1.out (by simp <;> omega) C1; have c1b := keepC T1b.out (by simp <;> omega) C1))
      go_ret
      exact ⟨rfl, HB.out.trans (T2b.out.mono (by simp <;> omega))⟩
    | true =>
      have HD := Lib.hid hd
      by_cases h0 : m < 0
      · have hpv : prgE l x d m = -1 := by unfold prgE; rw [if_neg (by simp; omega)]
        clear hx hd
        rw [hpv]
        clear hpv
        go_enter Try.func9, Try.ntmps9
        go_wp2_with (first
          | (go_at_call 20; refine (iIn _ _ _ _ _ d HN.out hm (HI.out.below rfl T1b.out)).mono ?_; unfold InPost; rw [HD.out]; rintro e w2 ⟨p2, q2, r2, u2, v2, s2, rfl, hv2, hb2⟩; clear hv2; have T2 := Lib.hid (T1b.out.trans (hb2.mono T1b.out.size)); have T2a := Lib.hid (T2.out.alloc T2.out.size (.cells #[.int .i64 p2, .int .i64 q2, .int .i64 r2] 40)); have T2b := Lib.hid (T2a.out.alloc T2a.out.size (.cells #[.int .i64 u2, .int .i64 v2, .int .i64 s2] 40)); have N2 := Lib.hid (keepH (Joins.below_alloc1 _ (.cells #[.int .i64 u2, .int .i64 v2, .int .i64 s2] 40)) (by simp) (heap_alloc_new w2 (.cells #[.int .i64 p2, .int .i64 q2, .int .i64 r2] 40))); have M2 : Hid (((w2.alloc (.cells #[.int .i64 p2, .int .i64 q2, .int .i64 r2] 40)).alloc (.cells #[.int .i64 u2, .int .i64 v2, .int .i64 s2] 40)).heap[w2.heap.size + 1]? = some (.cells #[.int .i64 u2, .int .i64 v2, .int .i64 s2] 40 (0, 0))) := Lib.hid (by simpa using heap_alloc_new (w2.alloc (.cells #[.int .i64 p2, .int .i64 q2, .int .i64 r2] 40)) (.cells #[.int .i64 u2, .int .i64 v2, .int .i64 s2] 40)); have c2 := keepC T2.out (by simp <;> omega) C1; have c2b := keepC T2b.out (by simp <;> omega) C1)
          | (go_at_call 20; refine (iIn _ _ _ _ _ x HN.out hm (HI.out.below rfl T0.out)).mono ?_; unfold InPost; rw [HX.out]; rintro e w1 ⟨p, q, r, u, v, s, rfl, hv1, hb1⟩; clear hv1; have T1 := Lib.hid (T0.out.trans (hb1.mono T0.out.size)); have T1a := Lib.hid (T1.out.alloc T1.out.size (.cells #[.int .i64 p, .int .i64 q, .int .i64 r] 40)); have T1b := Lib.hid (T1a.out.alloc T1a.out.size (.cells #[.int .i64 u, .int .i64 v, .int .i64 s] 40)); have N1 := Lib.hid (keepH (Joins.below_alloc1 _ (.cells #[.int .i64 u, .int .i64 v, .int .i64 s] 40)) (by simp) (heap_alloc_new w1 (.cells #[.int .i64 p, .int .i64 q, .int .i64 r] 40))); have M1 : Hid (((w1.alloc (.cells #[.int .i64 p, .int .i64 q, .int .i64 r] 40)).alloc (.cells #[.int .i64 u, .int .i64 v, .int .i64 s] 40)).heap[w1.heap.size + 1]? = some (.cells #[.int .i64 u, .int .i64 v, .int .i64 s] 40 (0, 0))) := Lib.hid (by simpa using heap_alloc_new (w1.alloc (.cells #[.int .i64 p, .int .i64 q, .int .i64 r] 40)) (.cells #[.int .i64 u, .int .i64 v, .int .i64 s] 40)); have c1 := keepC T1.out (by simp <;> omega) C1; have c1b := keepC T1b.out (by simp <;> omega) C1))
        go_ret
        exact ⟨rfl, HB.out.trans (T2b.out.mono (by simp <;> omega))⟩
      · by_cases h24 : 24 < m
        · have hpv : prgE l x d m = -1 := by unfold prgE; rw [if_neg (by simp; omega)]
          clear hx hd
          rw [hpv]
          clear hpv
          go_enter Try.func9, Try.ntmps9
          go_wp2_with (first
            | (go_at_call 20; refine (iIn _ _ _ _ _ d HN.out hm (HI.out.below rfl T1b.out)).mono ?_; unfold InPost; rw [HD.out]; rintro e w2 ⟨p2, q2, r2, u2, v2, s2, rfl, hv2, hb2⟩; clear hv2; have T2 := Lib.hid (T1b.out.trans (hb2.mono T1b.out.size)); have T2a := Lib.hid (T2.out.alloc T2.out.size (.cells #[.int .i64 p2, .int .i64 q2, .int .i64 r2] 40)); have T2b := Lib.hid (T2a.out.alloc T2a.out.size (.cells #[.int .i64 u2, .int .i64 v2, .int .i64 s2] 40)); have N2 := Lib.hid (keepH (Joins.below_alloc1 _ (.cells #[.int .i64 u2, .int .i64 v2, .int .i64 s2] 40)) (by simp) (heap_alloc_new w2 (.cells #[.int .i64 p2, .int .i64 q2, .int .i64 r2] 40))); have M2 : Hid (((w2.alloc (.cells #[.int .i64 p2, .int .i64 q2, .int .i64 r2] 40)).alloc (.cells #[.int .i64 u2, .int .i64 v2, .int .i64 s2] 40)).heap[w2.heap.size + 1]? = some (.cells #[.int .i64 u2, .int .i64 v2, .int .i64 s2] 40 (0, 0))) := Lib.hid (by simpa using heap_alloc_new (w2.alloc (.cells #[.int .i64 p2, .int .i64 q2, .int .i64 r2] 40)) (.cells #[.int .i64 u2, .int .i64 v2, .int .i64 s2] 40)); have c2 := keepC T2.out (by simp <;> omega) C1; have c2b := keepC T2b.out (by simp <;> omega) C1)
            | (go_at_call 20; refine (iIn _ _ _ _ _ x HN.out hm (HI.out.below rfl T0.out)).mono ?_; unfold InPost; rw [HX.out]; rintro e w1 ⟨p, q, r, u, v, s, rfl, hv1, hb1⟩; clear hv1; have T1 := Lib.hid (T0.out.trans (hb1.mono T0.out.size)); have T1a := Lib.hid (T1.out.alloc T1.out.size (.cells #[.int .i64 p, .int .i64 q, .int .i64 r] 40)); have T1b := Lib.hid (T1a.out.alloc T1a.out.size (.cells #[.int .i64 u, .int .i64 v, .int .i64 s] 40)); have N1 := Lib.hid (keepH (Joins.below_alloc1 _ (.cells #[.int .i64 u, .int .i64 v, .int .i64 s] 40)) (by simp) (heap_alloc_new w1 (.cells #[.int .i64 p, .int .i64 q, .int .i64 r] 40))); have M1 : Hid (((w1.alloc (.cells #[.int .i64 p, .int .i64 q, .int .i64 r] 40)).alloc (.cells #[.int .i64 u, .int .i64 v, .int .i64 s] 40)).heap[w1.heap.size + 1]? = some (.cells #[.int .i64 u, .int .i64 v, .int .i64 s] 40 (0, 0))) := Lib.hid (by simpa using heap_alloc_new (w1.alloc (.cells #[.int .i64 p, .int .i64 q, .int .i64 r] 40)) (.cells #[.int .i64 u, .int .i64 v, .int .i64 s] 40)); have c1 := keepC T1.out (by simp <;> omega) C1; have c1b := keepC T1b.out (by simp <;> omega) C1))
          go_ret
          exact ⟨rfl, HB.out.trans (T2b.out.mono (by simp <;> omega))⟩
        · obtain ⟨hg, hx0, hxp, hx23⟩ := isE_true hx
          obtain ⟨_, hd0, hdp, hd23⟩ := isE_true hd
          obtain ⟨x, rfl⟩ : ∃ X : Nat, x = (X : Int) := ⟨x.toNat, by omega⟩
          obtain ⟨d, rfl⟩ : ∃ X : Nat, d = (X : Int) := ⟨d.toNat, by omega⟩
          obtain ⟨m, rfl⟩ : ∃ X : Nat, m = (X : Int) := ⟨m.toNat, by omega⟩
          have hm24 : m ≤ 24 := by omega
          have hpv : prgE l (x : Int) (d : Int) (m : Int) = ((prgN l x d m : Nat) : Int) := by
            unfold prgE
            rw [if_pos (by rw [hx, hd]; simp; omega), Int.toNat_natCast, Int.toNat_natCast, Int.toNat_natCast]
          rw [hpv]
          have hP := (ords_grp hg).prod
          have hxN : x < (prodI l).toNat := by omega
          have hdN : d < (prodI l).toNat := by omega
          obtain ⟨_, h2, h3⟩ := run_el hg
          have HIX := Lib.hid (fun (W : World) (h : Ints W a l) => iIn_yes W a l n cap (x : Int) HN.out hm h hx)
          have HID := Lib.hid (fun (W : World) (h : Ints W a l) => iIn_yes W a l n cap (d : Int) HN.out hm h hd)
          rw [show (x : Int) % l.getD 0 1 = plU l x from rfl, show (x : Int) / l.getD 0 1 % l.getD 1 1 = plV l x from rfl, show (x : Int) / l.getD 0 1 / l.getD 1 1 % l.getD 2 1 = plS l x from rfl] at HIX
          rw [show (d : Int) % l.getD 0 1 = plU l d from rfl, show (d : Int) / l.getD 0 1 % l.getD 1 1 = plV l d from rfl, show (d : Int) / l.getD 0 1 / l.getD 1 1 % l.getD 2 1 = plS l d from rfl] at HID
          have HAD := Lib.hid (fun (W : World) (z : Nat) hz => h2 W z d hz hdN)
          have HEL := Lib.hid h3
          have HST := Lib.hid (fun k => stp_lt hg hxN (d := d) k)
          have HSS := Lib.hid (fun k => show adN l (stp (adN l) d x k) d = stp (adN l) d x (k + 1) from rfl)
          have HPN := Lib.hid (fun k => show prgN l x d k ||| 2 ^ stp (adN l) d x k = prgN l x d (k + 1) from rfl)
          have HPL := Lib.hid (fun k => grp_pow hg (prg_lt hg hxN (d := d) k))
          have HP0 : Hid (prgN l x d 0 = 0) := Lib.hid rfl
          obtain ⟨U, hU⟩ : ∃ U, plU l = U := ⟨_, rfl⟩
          obtain ⟨V, hV⟩ : ∃ U, plV l = U := ⟨_, rfl⟩
          obtain ⟨S, hS⟩ : ∃ U, plS l = U := ⟨_, rfl⟩
          rw [hU, hV, hS] at HIX HID HAD HEL
          obtain ⟨p, EP⟩ : ∃ p, Hid (l.getD 0 1 = p) := ⟨_, Lib.hid rfl⟩
          obtain ⟨q, EQ⟩ : ∃ q, Hid (l.getD 1 1 = q) := ⟨_, Lib.hid rfl⟩
          obtain ⟨r, ER⟩ : ∃ r, Hid (l.getD 2 1 = r) := ⟨_, Lib.hid rfl⟩
          rw [EP.out, EQ.out, ER.out] at HIX HID HAD HEL
          obtain ⟨N, hN0⟩ : ∃ N, (prodI l).toNat = N := ⟨_, rfl⟩
          rw [hN0] at HEL HAD HST
          have hN24 : N ≤ 24 := by omega
          clear hx hd hg hx0 hxp hx23 hd0 hdp hd23 hpv hP hxN hdN h2 h3 hU hV hS hN0 HX HD
          go_enter Try.func9, Try.ntmps9
          go_wp2_with (first
            | (go_at_call 20; refine (HID.out _ (HI.out.below rfl T1b.out)).mono ?_; rintro e w2 ⟨rfl, hb2⟩; have T2 := Lib.hid (T1b.out.trans (hb2.mono T1b.out.size)); have T2a := Lib.hid (T2.out.alloc T2.out.size (.cells #[.int .i64 p, .int .i64 q, .int .i64 r] 40)); have T2b := Lib.hid (T2a.out.alloc T2a.out.size (.cells #[.int .i64 (U d), .int .i64 (V d), .int .i64 (S d)] 40)); have K1 := Lib.hid ((hb2.alloc hb2.size (.cells #[.int .i64 p, .int .i64 q, .int .i64 r] 40)).alloc (Nat.le_trans hb2.size (by simp)) (.cells #[.int .i64 (U d), .int .i64 (V d), .int .i64 (S d)] 40)); have M2 : Hid (((w2.alloc (.cells #[.int .i64 p, .int .i64 q, .int .i64 r] 40)).alloc (.cells #[.int .i64 (U d), .int .i64 (V d), .int .i64 (S d)] 40)).heap[w2.heap.size + 1]? = some (.cells #[.int .i64 (U d), .int .i64 (V d), .int .i64 (S d)] 40 (0, 0))) := Lib.hid (by simpa using heap_alloc_new (w2.alloc (.cells #[.int .i64 p, .int .i64 q, .int .i64 r] 40)) (.cells #[.int .i64 (U d), .int .i64 (V d), .int .i64 (S d)] 40)); have hz2 := hb2.size)
            | (go_at_call 20; refine (HIX.out _ (HI.out.below rfl T0.out)).mono ?_; rintro e w1 ⟨rfl, hb1⟩; have T1 := Lib.hid (T0.out.trans (hb1.mono T0.out.size)); have T1a := Lib.hid (T1.out.alloc T1.out.size (.cells #[.int .i64 p, .int .i64 q, .int .i64 r] 40)); have T1b := Lib.hid (T1a.out.alloc T1a.out.size (.cells #[.int .i64 (U x), .int .i64 (V x), .int .i64 (S x)] 40)); have N1 := Lib.hid (keepH (Joins.below_alloc1 _ (.cells #[.int .i64 (U x), .int .i64 (V x), .int .i64 (S x)] 40)) (by simp) (heap_alloc_new w1 (.cells #[.int .i64 p, .int .i64 q, .int .i64 r] 40))); have M1 : Hid (((w1.alloc (.cells #[.int .i64 p, .int .i64 q, .int .i64 r] 40)).alloc (.cells #[.int .i64 (U x), .int .i64 (V x), .int .i64 (S x)] 40)).heap[w1.heap.size + 1]? = some (.cells #[.int .i64 (U x), .int .i64 (V x), .int .i64 (S x)] 40 (0, 0))) := Lib.hid (by simpa using heap_alloc_new (w1.alloc (.cells #[.int .i64 p, .int .i64 q, .int .i64 r] 40)) (.cells #[.int .i64 (U x), .int .i64 (V x), .int .i64 (S x)] 40)); have c1b := keepC T1b.out (by simp <;> omega) C1; have hz1 := hb1.size))
          have hs1 : w.heap.size < w1.heap.size := by simp at hz1; omega
          have hs2 : w1.heap.size + 2 ≤ w2.heap.size := by simp at hz2; omega
          clear hz1 hz2
          have Q1 := Lib.hid (keepH K1.out (by simp <;> omega) N1.out)
          have Q2 := Lib.hid (keepH K1.out (by simp <;> omega) M1.out)
          have HB2 := Lib.hid (HB.out.trans (T2b.out.mono (by simp)))
          clear N1 M1 K1 T2b T2a T2 T1b T1a T1 hb1 hb2
          go_loopw [15, 45] (fun sv iv wr => ∃ k : Nat, k ≤ m ∧ iv = .int .i64 k ∧ sv = .int .u64 (prgN l x d k : Nat) ∧ Hid (Below w.heap.size w wr) ∧ Hid (wr.heap[w1.heap.size]? = some (.cells #[.int .i64 p, .int .i64 q, .int .i64 r] 40 (0, 0))) ∧ Hid (wr.heap[w1.heap.size + 1]? = some (.cells #[.int .i64 (U (stp (adN l) d x k)), .int .i64 (V (stp (adN l) d x k)), .int .i64 (S (stp (adN l) d x k))] 40 (0, 0))) ∧ Hid (wr.heap[w2.heap.size + 1]? = some (.cells #[.int .i64 (U d), .int .i64 (V d), .int .i64 (S d)] 40 (0, 0)))) (fun _ iv _ => m - (intOf iv).toNat)
          case atStart => exact ⟨0, Nat.zero_le _, rfl, by rw [HP0.out]; rfl, HB2, Q1, Q2, M2⟩
          case round =>
            obtain ⟨k, hk, rfl, rfl, HBW, HGW, H9W, H10W⟩ := hrel
            have hS24 : prgN l x d k < 16777216 := HPL.out k
            by_cases hlt : k < m
            · have hX := HST.out k
              have hX1 := HST.out (k + 1)
              have HA1 := Lib.hid (fun (W : World) => HAD.out W (stp (adN l) d x k) hX)
              have HE1 := Lib.hid (fun (W : World) => HEL.out W (stp (adN l) d x k) hX)
              have HN2 := Lib.hid (HPN.out k)
              rw [HSS.out k] at HA1
              obtain ⟨X, hXX⟩ : ∃ X, Hid (stp (adN l) d x k = X) := ⟨_, Lib.hid rfl⟩
              obtain ⟨Y, hYY⟩ : ∃ Y, Hid (stp (adN l) d x (k + 1) = Y) := ⟨_, Lib.hid rfl⟩
              obtain ⟨Q, hQQ⟩ : ∃ Q, Hid (prgN l x d k = Q) := ⟨_, Lib.hid rfl⟩
              rw [hXX.out] at hX H9W HA1 HE1 HN2
              rw [hYY.out] at hX1 HA1
              rw [hQQ.out] at hS24 HN2
              rw [hQQ.out]
              have hX23 : X ≤ 23 := by omega
              have HW := Lib.hid (fun (W : World) => iWith W Q X hS24 hX23)
              rw [HN2.out] at HW
              obtain ⟨c0, c1, c2, _, _, _⟩ := trip_cell HGW.out
              obtain ⟨a0, a1, a2, f0, f1, f2⟩ := trip_cell H9W.out
              obtain ⟨d0, d1, d2, _, _, _⟩ := trip_cell H10W.out
              have hki : (k : Int) < (m : Int) := by omega
              clear hS24 hX hX1 C1 c1b
              go_wp2_with (first
                | (go_at_call 23; refine (HA1.out _).mono ?_; rintro e w4 ⟨rfl, hb4⟩; have G4 := Lib.hid (keepH hb4 (Array.getElem?_eq_some_iff.1 G3.out).1 G3.out); have P4 := Lib.hid (keepH hb4 (Array.getElem?_eq_some_iff.1 P3.out).1 P3.out); have D4 := Lib.hid (keepH hb4 (Array.getElem?_eq_some_iff.1 D3.out).1 D3.out); have B4 := Lib.hid (below_set3 (x := .int .i64 (U Y)) (y := .int .i64 (V Y)) (z := .int .i64 (S Y)) (B3.out.trans (hb4.mono B3.out.size)) (b := w1.heap.size + 1) (by omega)); have PS := Lib.hid (set3_heapV (u := .int .i64 (U Y)) (v := .int .i64 (V Y)) (s := .int .i64 (S Y)) P4.out); have GS := Lib.hid (set3_other (b := w1.heap.size + 1) (u := .int .i64 (U Y)) (v := .int .i64 (V Y)) (s := .int .i64 (S Y)) G4.out (by omega)); have DS := Lib.hid (set3_other (b := w1.heap.size + 1) (u := .int .i64 (U Y)) (v := .int .i64 (V Y)) (s := .int .i64 (S Y)) D4.out (by omega)); obtain ⟨a10, a11, a12, f10, f11, f12⟩ := trip_cell P4.out)
                | (go_at_call 21; refine (HW.out _).mono ?_; rintro e w5 ⟨rfl, rfl⟩)
                | (go_at_call 22; refine (HE1.out _).mono ?_; rintro e w3 ⟨rfl, hb3⟩; have B3 := Lib.hid (HBW.out.trans (hb3.mono HBW.out.size)); have G3 := Lib.hid (keepH hb3 (Array.getElem?_eq_some_iff.1 HGW.out).1 HGW.out); have P3 := Lib.hid (keepH hb3 (Array.getElem?_eq_some_iff.1 H9W.out).1 H9W.out); have D3 := Lib.hid (keepH hb3 (Array.getElem?_eq_some_iff.1 H10W.out).1 H10W.out); obtain ⟨c30, c31, c32, _, _, _⟩ := trip_cell G3.out; obtain ⟨a30, a31, a32, _, _, _⟩ := trip_cell P3.out; obtain ⟨d30, d31, d32, _, _, _⟩ := trip_cell D3.out))
              go_roundw
              case rel => exact ⟨k + 1, by omega, by go_num, rfl, B4, GS, by rw [hYY.out]; exact PS, DS⟩
              case measure => simp [intOf]; omega
            · obtain rfl : k = m := by omega
              have hki : ¬ (k : Int) < (k : Int) := by omega
              obtain ⟨Q, hQQ⟩ : ∃ Q, prgN l x d k = Q := ⟨_, rfl⟩
              rw [hQQ] at hS24
              rw [hQQ]
              have HQQ := Lib.hid hQQ
              have hwr : IntKind.i64.wrap ((Q : Nat) : Int) = (Q : Int) := by rw [IntKind.wrap_i64]; omega
              clear hQQ
              go_wp2
              go_ret
              exact ⟨by rw [HQQ.out]; rfl, HBW.out⟩
set_option maxHeartbeats 2000000 in
theorem iPrm (w : World) (a : Option Addr) (l : List Int) (n cap : Nat) (hn : n = l.length) (hm : n ≤ 9223372036854775807) (hi : Ints w a l) :
    Calls Try.prog 14 #[.agg #[.slice a n cap]] w fun e w' => e = .returned (.bool (prmB l)) ∧ Below w.heap.size w w' := by
  have HI := Lib.hid (ints_alloc hi (.cells #[.slice a n cap] 27))
  have HN := Lib.hid hn
  have C1 := newC w (.slice a n cap) 27 (n := w.heap.size) rfl
  have HB := Lib.hid (Joins.below_alloc1 w (.cells #[.slice a n cap] 27))
  have T0 := Lib.hid (Below.refl (w.alloc (.cells #[.slice a n cap] 27)).heap.size (w.alloc (.cells #[.slice a n cap] 27)))
  clear hi hn
  cases hg : grpB l with
  | false =>
    have HO : Hid (ordN l = 0) := Lib.hid (by unfold ordN; rw [hg]; rfl)
    rw [show prmB l = false by unfold prmB; rw [hg]; rfl]
    clear hg
    go_enter Try.func14, Try.ntmps14
    go_wp2_with (go_at_call 33; refine (iOrderOf _ _ _ _ _ HN.out hm (HI.out.below rfl T0.out)).mono ?_; rw [HO.out]; rintro e w1 ⟨rfl, hb1⟩; have T1 := Lib.hid (HB.out.trans (hb1.mono (by simp))))
    go_ret
    exact ⟨rfl, T1.out⟩
  | true =>
    have hp := (ords_grp hg).prod
    rw [prm_ld hg]
    obtain ⟨N, hNN⟩ : ∃ N : Nat, (prodI l).toNat = N := ⟨_, rfl⟩
    have HO : Hid (ordN l = (N : Int)) := Lib.hid (by rw [ordN_grp hg]; omega)
    rw [hNN]
    have hN1 : 1 ≤ N := by omega
    have hN24 : N ≤ 24 := by omega
    have HLD := Lib.hid (fun (W : World) => iLd W N hN1 hN24)
    obtain ⟨L, hL⟩ : ∃ L, ldN N = L := ⟨_, rfl⟩
    rw [hL] at HLD ⊢
    clear hg hNN hL hp
    by_cases h : 1 < N
    · have hd : (1 : Int) < (N : Int) := by omega
      rw [decide_eq_true h, Bool.true_and]
      go_enter Try.func14, Try.ntmps14
      go_wp2_with (first
        | (go_at_call 34; refine (HLD.out _).mono ?_; rintro e w2 ⟨rfl, rfl⟩)
        | (go_at_call 33; refine (iOrderOf _ _ _ _ _ HN.out hm (HI.out.below rfl T0.out)).mono ?_; rw [HO.out]; rintro e w1 ⟨rfl, hb1⟩; have T1 := Lib.hid (HB.out.trans (hb1.mono (by simp)))))
      go_ret
      exact ⟨rfl, T1.out⟩
    · have hd : ¬ (1 : Int) < (N : Int) := by omega
      rw [decide_eq_false h, Bool.false_and]
      go_enter Try.func14, Try.ntmps14
      go_wp2_with (go_at_call 33; refine (iOrderOf _ _ _ _ _ HN.out hm (HI.out.below rfl T0.out)).mono ?_; rw [HO.out]; rintro e w1 ⟨rfl, hb1⟩; have T1 := Lib.hid (HB.out.trans (hb1.mono (by simp))))
      go_ret
      exact ⟨rfl, T1.out⟩
end Go.Proofs.Ytfkleihnafeoeaa
