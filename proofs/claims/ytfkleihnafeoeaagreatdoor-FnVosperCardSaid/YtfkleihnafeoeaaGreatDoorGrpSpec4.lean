/- The contracts of the document's reading of groups (spec): negatives, multiples and orders of elements. -/
import Derived.Test.YtfkleihnafeoeaaGreatDoorGrpSpec3
namespace Go.Proofs.YtfkleihnafeoeaaGreatDoor
open Go.RowKit
set_option maxRecDepth 1000000
/-- A place of the negative. -/
def ndig (l : List Int) (x : Int) (k : Nat) : Int := -(x / PK l k % l.getD k 0) % l.getD k 0
theorem ndig_bnd {l : List Int} (h : Ords l) (x : Int) {k : Nat} (hk : k < l.length) : 0 ≤ ndig l x k ∧ ndig l x k < l.getD k 0 := by
  have := h.pos k hk
  exact ⟨Int.emod_nonneg _ (by omega), Int.emod_lt_of_pos _ (by omega)⟩
theorem ndig_neg (l : List Int) (x : Int) : valK l (ndig l x) l.length = negN l x := by
  unfold negN mulN
  apply val_congr
  intro j _
  unfold ndig mulF
  rw [← neg_place, Int.sub_eq_add_neg, Int.add_comm, Int.add_emod_right]; rfl
set_option maxHeartbeats 1000000 in
theorem sNeg (w : World) (a : Option Addr) (l : List Int) (n cap : Nat) (x : Int) (hx0 : 0 ≤ x) (hx : x ≤ 23) (hn : n = l.length) (hg : grpB l = true) (hi : Ints w a l) :
    Calls Tryz.prog 45 #[.agg #[.slice a n cap], .int .i64 x] w fun e w' => e = .returned (.int .i64 (negN l x)) ∧ Below w.heap.size w w' := by
  have HI := Lib.hid hi
  have HN := Lib.hid hn
  have HG := Lib.hid hg
  have hn3 : n ≤ 3 := by rw [hn]; exact (grpB_true hg).1
  clear hi hn hg
  have C1 := newC w (.slice a n cap) 26 (n := w.heap.size) rfl
  have HB := Lib.hid (Joins.below_alloc1 w (.cells #[.slice a n cap] 26))
  have HX := Lib.hid (And.intro hx0 hx)
  clear hx0 hx
  go_enter Tryz.func45, Tryz.ntmps45
  go_wp2
  go_loop [1, 5, 6, 7] (fun u z p i => ∃ k : Nat, k ≤ n ∧ i = .int .i64 k ∧ p = .int .i64 (PK l k) ∧ u = .int .i64 (x / PK l k) ∧ z = .int .i64 (valK l (ndig l x) k)) (fun _ _ _ i => n - (intOf i).toNat)
  case atStart => exact ⟨0, by omega, rfl, by rw [PK_zero], by rw [PK_zero, Int.ediv_one], rfl⟩
  case round =>
    obtain ⟨k, hk, rfl, rfl, rfl, rfl⟩ := hrel
    by_cases hlt : k < n
    · have hkl2 : k < l.length := by rw [← HN.out]; exact hlt
      rcases HI.out with h0 | ⟨b, off, h1, hbl, hc⟩
      · rw [h0] at hkl2; simp at hkl2
      · subst h1
        have r1 : (w.alloc (.cells #[.slice (some ⟨b, off, none⟩) n cap] 26)).cell? ⟨b, off + k, none⟩ = some (.int .i64 (l.getD k 0)) := keepC (Joins.below_alloc1 w _) (by simpa using hbl) (hc k hkl2)
        have HS := Lib.hid (PK_succ l k hkl2)
        obtain ⟨p1, p2⟩ := PK_grp HG.out k (by omega)
        obtain ⟨q1, q2⟩ := PK_grp HG.out (k + 1) (by omega)
        rw [HS.out] at q1 q2
        obtain ⟨o1, o2⟩ := ord_at HG.out hkl2
        obtain ⟨x1, x2⟩ := quo_bnd HX.out.1 p1
        have x3 := Int.le_trans x2 HX.out.2
        obtain ⟨d1, d2⟩ := ndig_bnd (ords_grp HG.out) x hkl2
        obtain ⟨m1, m2⟩ := mul_lt24 d1 d2 o2 p1 p2
        obtain ⟨v1, v2⟩ := valK_bnd HG.out (ndig l x) k (by omega) (fun j hj => ndig_bnd (ords_grp HG.out) x (by omega))
        have QX := Lib.hid (quo_step l x k hkl2 (by omega))
        have HV : Hid (valK l (ndig l x) (k + 1) = valK l (ndig l x) k + ndig l x k * PK l k) := Lib.hid rfl
        have HD : ndig l x k = -(x / PK l k % l.getD k 0) % l.getD k 0 := rfl
        clear hc hkl2 x2
        rw [HD] at d1 d2 m1 m2 HV
        clear HD
        generalize valK l (ndig l x) k = z at *
        generalize x / PK l k = u at *
        generalize l.getD k 0 = c at *
        generalize PK l k = N at *
        have a1 : 0 ≤ u % c := Int.emod_nonneg _ (by omega)
        have a2 : u % c < c := Int.emod_lt_of_pos _ (by omega)
        go_wp2
        go_round
        case rel => exact ⟨k + 1, by omega, by go_num, by rw [HS.out], by rw [QX.out], by rw [HV.out]⟩
        case measure => simp [intOf]; omega
    · obtain rfl : k = n := by omega
      have HF : Hid (negN l x = valK l (ndig l x) k) := Lib.hid (by rw [HN.out, ndig_neg])
      go_wp2
      go_ret
      exact ⟨by rw [HF.out]; rfl, HB.out⟩
def negE (l : List Int) (x : Int) : Int := if isE l x = true then negN l x else -1
theorem sNegE (w : World) (a : Option Addr) (l : List Int) (n cap : Nat) (x : Int) (hn : n = l.length) (hm : n ≤ 9223372036854775807) (hi : Ints w a l) :
    Calls Tryz.prog 15 #[.agg #[.slice a n cap], .int .i64 x] w fun e w' => e = .returned (.int .i64 (negE l x)) ∧ Below w.heap.size w w' := by
  have HI := Lib.hid (ints_alloc hi (.cells #[.slice a n cap] 26))
  have HN := Lib.hid hn
  have C1 := newC w (.slice a n cap) 26 (n := w.heap.size) rfl
  have HB := Lib.hid (Joins.below_alloc1 w (.cells #[.slice a n cap] 26))
  have T0 := Lib.hid (Below.refl (w.alloc (.cells #[.slice a n cap] 26)).heap.size (w.alloc (.cells #[.slice a n cap] 26)))
  clear hi hn
  cases hx : isE l x with
  | false =>
    have HX : Hid (false = isE l x) := Lib.hid hx.symm
    rw [show negE l x = -1 by unfold negE; rw [if_neg (by simp [hx])]]
    clear hx
    go_enter Tryz.func15, Tryz.ntmps15
    go_wp2_with (go_at_call 44; refine (sIs _ _ _ _ _ _ _ HX.out HN.out hm HI.out).mono ?_; rintro e w1 ⟨rfl, hb1⟩; have c1 := keepC hb1 (by simp) C1)
    go_ret
    exact ⟨rfl, HB.out.trans (hb1.mono (by simp))⟩
  | true =>
    have HX : Hid (true = isE l x) := Lib.hid hx.symm
    rw [show negE l x = negN l x by unfold negE; rw [if_pos hx]]
    have BX := Lib.hid (isE_true hx)
    clear hx
    go_enter Tryz.func15, Tryz.ntmps15
    go_wp2_with (first
      | (go_at_call 45; refine (sNeg _ _ _ _ _ _ BX.out.2.1 BX.out.2.2.2 HN.out BX.out.1 (HI.out.below rfl T1.out)).mono ?_; rintro e w2 ⟨rfl, hb2⟩; have T2 := Lib.hid (T1.out.trans (hb2.mono T1.out.size)))
      | (go_at_call 44; refine (sIs _ _ _ _ _ _ _ HX.out HN.out hm HI.out).mono ?_; rintro e w1 ⟨rfl, hb1⟩; have T1 := Lib.hid (T0.out.trans (hb1.mono T0.out.size)); have c1 := keepC T1.out (by simp) C1))
    go_ret
    exact ⟨rfl, HB.out.trans (T2.out.mono (by simp))⟩
/-- The document's multiple. -/
def mulE (l : List Int) (x k : Int) : Int := if isE l x = true then (if -100 ≤ k ∧ k ≤ 100 then mulN l x k else -1) else -1
end Go.Proofs.YtfkleihnafeoeaaGreatDoor
