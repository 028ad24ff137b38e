/- Merged: Shift SumI Dil ShiftSet SetDil SumJ SumK GenI GenJ. -/
import Derived.Test.YthlpjiibjlaebaaGreatDoorMGAN
import Derived.Test.YthlpjiibjlaebaaGreatDoorMGAI
import Derived.Test.YthlpjiibjlaebaaGreatDoorShiftN
import Derived.Test.YthlpjiibjlaebaaGreatDoorMGAQ
import Derived.Test.YthlpjiibjlaebaaGreatDoorMGAL
import Derived.Test.YthlpjiibjlaebaaGreatDoorExtMath
namespace Go.Proofs.YthlpjiibjlaebaaGreatDoor
open Go.RowKit Go.Shelf
attribute [local go_sem] Oper.semAt_some
set_option maxRecDepth 1000000
/-- A block of cells stays as it is where blocks that are no cells turn. -/
theorem cells_own {β : Type} (b : Nat) (f : β → Array Value) (t : TypeId) : Own (fun (s : β) W => W.heap[b]? = some (.cells (f s) t (0, 0))) := fun s W W' row hs hg hr =>
  (hg.block b (Array.getElem?_eq_some_iff.1 hs).1 (fun e => by obtain ⟨o, ho, hc⟩ := hr b e.symm; rw [hs] at ho; cases ho; cases hc)).trans hs
def isDef : Op → Bool
  | .defer _ => true
  | _ => false
theorem no_defer {ops : Array Oper} (h : (ops.toList.all fun o => !isDef o.op) = true) : ∀ (i : Nat) (o : Oper), ops[i]? = some o → ∀ c, o.op ≠ .defer c := fun i o ho c e => by
  have h1 := List.all_eq_true.1 h o (by rw [← Array.getElem?_toList] at ho; exact List.mem_of_getElem? ho)
  rw [e] at h1
  cases h1
theorem keeps_below {W W' : World} (h : Below W.drew.heap.size W.drew W') : KeepsOthers W W' := ⟨h.size, fun k _ ho _ => (h.block k (Array.getElem?_eq_some_iff.1 ho).1).trans ho⟩
end Go.Proofs.YthlpjiibjlaebaaGreatDoor

namespace Go.Proofs.YthlpjiibjlaebaaGreatDoor
open Go.RowKit Go.Shelf
attribute [local go_sem] Oper.semAt_some
set_option maxRecDepth 1000000
/-- The set s moved by x, by the three places. -/
def shG (p q r : Int) (s x : Nat) : Nat := orF (shF p q r ((x : Int) % p) ((x : Int) / p % q) ((x : Int) / p / q % r)) (bitsN s)
theorem shG_lt {p q r : Int} (h : Tri p q r) {s x : Nat} (hs : s < 2 ^ (p * q * r).toNat) (hx : (x : Int) < p * q * r) : shG p q r s x < 2 ^ (p * q * r).toNat := by
  have hp : ((p.toNat : Nat) : Int) = p := Int.toNat_of_nonneg (by have := h.p1; omega)
  have hq : ((q.toNat : Nat) : Int) = q := Int.toNat_of_nonneg (by have := h.q1; omega)
  have hr : ((r.toNat : Nat) : Int) = r := Int.toNat_of_nonneg (by have := h.r1; omega)
  obtain ⟨h1, h2, h3, h4, h5, h6, h7, h8, h9, h10⟩ := h
  have e : p.toNat * q.toNat * r.toNat = (p * q * r).toNat := by
    have : ((p.toNat * q.toNat * r.toNat : Nat) : Int) = p * q * r := by rw [Int.natCast_mul, Int.natCast_mul, hp, hq, hr]
    omega
  have g1 := shN_orF (p := p.toNat) (q := q.toNat) (r := r.toNat) (x := x) (s := s) (by omega) (by omega) (by omega) (by omega) (by omega) (by rw [e]; exact hs)
  have g2 := (shN_bit (p := p.toNat) (q := q.toNat) (r := r.toNat) (x := x) (s := s) (by omega) (by omega) (by omega) (by omega) (by omega) (by rw [e]; exact hs)).1
  rw [hp, hq, hr] at g1
  rw [g1, e] at g2
  exact g2
theorem iShG (w : World) (p q r : Int) (s x : Nat) (h : Tri p q r) (hs : s < 2 ^ (p * q * r).toNat) (hx : (x : Int) < p * q * r) :
    Calls Tryz.prog 101 #[tV p q r, .int .u64 s, .int .i64 x] w fun e w' => e = .returned (.int .u64 (shG p q r s x : Nat)) ∧ Below w.heap.size w w' := iShiftN w p q r s x h hs hx
theorem tri_pow {p q r : Int} (h : Tri p q r) {s : Nat} (hs : s < 2 ^ (p * q * r).toNat) : s < 2 ^ 24 :=
  Nat.lt_of_lt_of_le hs (Nat.pow_le_pow_right (by decide) (by have := h.pqr2; omega))
theorem tri_elt {p q r : Int} (h : Tri p q r) {s x : Nat} (hs : s < 2 ^ (p * q * r).toNat) (hx : s.testBit x = true) : (x : Int) < p * q * r := by
  have h1 := h.pqr1
  have : x < (p * q * r).toNat := by
    rcases Nat.lt_or_ge x (p * q * r).toNat with h2 | h2
    · exact h2
    · rw [bit_no hs x h2] at hx; cases hx
  omega
theorem orU (a b : Nat) (ha : a < 16777216) (hb : b < 16777216) : bits .or .u64 (a : Int) (b : Int) = ((a ||| b : Nat) : Int) := bits_or_u64_nat a b (by omega) (by omega)
end Go.Proofs.YthlpjiibjlaebaaGreatDoor

namespace Go.Proofs.YthlpjiibjlaebaaGreatDoor
open Go.RowKit Go.Shelf
attribute [local go_sem] Oper.semAt_some
set_option maxRecDepth 1000000
/-- The multiple of an element, by its three places. -/
def dilF (p q r k : Int) (y : Nat) : Int := (y : Int) % p * k % p + p * ((y : Int) / p % q * k % q) + p * q * ((y : Int) / p / q % r * k % r)
theorem dilF_bnd {p q r k : Int} (h : Tri p q r) (y : Nat) : 0 ≤ dilF p q r k y ∧ dilF p q r k y ≤ 23 := by
  have a := emod_b (a := (y : Int) % p * k) h.p1
  have b := emod_b (a := (y : Int) / p % q * k) h.q1
  have c := emod_b (a := (y : Int) / p / q % r * k) h.r1
  have h3 := h.pqr2
  have hp := h.p1
  have hq := h.q1
  have hpq := h.pq1
  unfold dilF
  generalize (y : Int) % p * k % p = A at *
  generalize (y : Int) / p % q * k % q = B at *
  generalize (y : Int) / p / q % r * k % r = C at *
  have m1 : 0 ≤ p * B := Int.mul_nonneg (by omega) b.1
  have m2 : p * B ≤ p * (q - 1) := Int.mul_le_mul_of_nonneg_left (by omega) (by omega)
  have m3 : 0 ≤ p * q * C := Int.mul_nonneg (by omega) c.1
  have m4 : p * q * C ≤ p * q * (r - 1) := Int.mul_le_mul_of_nonneg_left (by omega) (by omega)
  rw [Int.mul_sub, Int.mul_one] at m2 m4
  omega
theorem orF_dil_lt {p q r k : Int} (h : Tri p q r) (L : List Nat) : orF (dilF p q r k) L < 16777216 :=
  orF_lt _ _ 24 (fun x _ => by have := dilF_bnd (k := k) h x; omega)
end Go.Proofs.YthlpjiibjlaebaaGreatDoor

namespace Go.Proofs.YthlpjiibjlaebaaGreatDoor
open Go.RowKit
set_option maxRecDepth 1000000
theorem sh_tri {l : List Int} (h : grpB l = true) (x : Int) (L : List Nat) :
    orF (fun y => addN l (y : Int) x) L = orF (shF (l.getD 0 1) (l.getD 1 1) (l.getD 2 1) (x % l.getD 0 1) (x / l.getD 0 1 % l.getD 1 1) (x / l.getD 0 1 / l.getD 1 1 % l.getD 2 1)) L :=
  orF_congr _ _ L (fun y _ => by
    have := (tri_grp h).p1
    rw [add_tri (grpB_true h).1 (y : Int) x (by omega)]; rfl)
end Go.Proofs.YthlpjiibjlaebaaGreatDoor

namespace Go.Proofs.YthlpjiibjlaebaaGreatDoor
open Go.RowKit
set_option maxRecDepth 1000000
theorem dl_tri {l : List Int} (h : grpB l = true) (k : Int) (L : List Nat) :
    orF (fun y => mulN l (y : Int) k) L = orF (dilF (l.getD 0 1) (l.getD 1 1) (l.getD 2 1) k) L :=
  orF_congr _ _ L (fun y _ => by
    have := (tri_grp h).p1
    rw [mul_tri (grpB_true h).1 (y : Int) k (by omega)]; rfl)
end Go.Proofs.YthlpjiibjlaebaaGreatDoor

namespace Go.Proofs.YthlpjiibjlaebaaGreatDoor
open Go.RowKit
set_option maxRecDepth 1000000
/-- What setsIn answers. -/
def SetsInPost (l : List Int) (s t : Int) (w : World) (e : Ending) (w' : World) : Prop :=
  ∃ p q r u v, e = .returned (.tuple #[tV p q r, .int .u64 u, .int .u64 v, .bool (two l s t)]) ∧ (two l s t = true → p = l.getD 0 1 ∧ q = l.getD 1 1 ∧ r = l.getD 2 1 ∧ u = s ∧ v = t) ∧ Below w.heap.size w w'
end Go.Proofs.YthlpjiibjlaebaaGreatDoor

namespace Go.Proofs.YthlpjiibjlaebaaGreatDoor
open Go.RowKit
set_option maxRecDepth 1000000
/-- Both are sets: what is known of them. -/
theorem two_true {l : List Int} {s t : Int} (h : two l s t = true) : grpB l = true ∧ ∃ a b : Nat, s = (a : Int) ∧ t = (b : Int) ∧ a < 2 ^ (prodI l).toNat ∧ b < 2 ^ (prodI l).toNat := by
  unfold two at h
  rw [Bool.and_eq_true] at h
  obtain ⟨hg, a, h1, h2, _⟩ := isS_true h.1
  obtain ⟨_, b, h3, h4, _⟩ := isS_true h.2
  exact ⟨hg, a, b, h1, h3, h2, h4⟩
theorem shG_mov {l : List Int} (hg : grpB l = true) (t x : Nat) : shG (l.getD 0 1) (l.getD 1 1) (l.getD 2 1) t x = movN l t x := (sh_tri hg (x : Int) (bitsN t)).symm
theorem sum_prog {l : List Int} (hg : grpB l = true) {s t : Nat} (hs : s < 2 ^ (prodI l).toNat) (ht : t < 2 ^ (prodI l).toNat) :
    orG (fun x => shG (l.getD 0 1) (l.getD 1 1) (l.getD 2 1) t x) (bitsN s) = sumN l s t := by
  rw [orG_congr _ (fun x => movN l t x) _ (fun x _ => shG_mov hg t x)]
  exact sumN_comm l (grp_pow hg ht) (grp_pow hg hs)
theorem dif_sum (l : List Int) (s t : Int) : sumE l s (ngE l t) = difE l s t := by
  cases ht : isS l t with
  | false =>
    have e : ngE l t = -1 := by unfold ngE; rw [if_neg (by simp [ht])]
    unfold sumE difE two
    rw [e, isS_neg (l := l) (show (-1 : Int) < 0 by decide), ht, Bool.and_false, if_neg (by simp), if_neg (by simp)]
  | true =>
    obtain ⟨hg, t, rfl, htn, _⟩ := isS_true ht
    have e : ngE l (t : Int) = ((ngN l t : Nat) : Int) := by unfold ngE; rw [if_pos ht]; rfl
    unfold sumE difE two
    rw [e, isS_of hg (ngN_lt hg t), ht]; rfl
theorem pow_prog {l : List Int} (hg : grpB l = true) {s : Nat} (hs : s < 2 ^ (prodI l).toNat) (k : Nat) :
    orG (fun x => shG (l.getD 0 1) (l.getD 1 1) (l.getD 2 1) s x) (bitsN (powS l s k)) = powS l s (k + 1) := sum_prog hg (powS_lt hg s k) hs
end Go.Proofs.YthlpjiibjlaebaaGreatDoor

namespace Go.Proofs.YthlpjiibjlaebaaGreatDoor
open Go.RowKit Go.Shelf
attribute [local go_sem] Oper.semAt_some
set_option maxRecDepth 1000000
theorem orU' {a b n : Nat} (hn : n ≤ 24) (ha : a < 2 ^ n) (hb : b < 2 ^ n) : bits .or .u64 (a : Int) (b : Int) = ((a ||| b : Nat) : Int) := by
  have h := Nat.pow_le_pow_right (show 0 < 2 by decide) hn
  exact orU a b (Nat.lt_of_lt_of_le ha h) (Nat.lt_of_lt_of_le hb h)
/-- The program's shift of a set, by the group's places. -/
theorem iMov {l : List Int} (hg : grpB l = true) (w : World) (s x : Nat) (hs : s < 2 ^ (prodI l).toNat) (hx : (x : Int) < prodI l) :
    Calls Tryz.prog 101 #[tV (l.getD 0 1) (l.getD 1 1) (l.getD 2 1), .int .u64 s, .int .i64 x] w fun e w' => e = .returned (.int .u64 (movN l s x : Nat)) ∧ Below w.heap.size w w' := by
  have HP := prod_pad (grpB_true hg).1
  have h := iShG w (l.getD 0 1) (l.getD 1 1) (l.getD 2 1) s x (tri_grp hg) (by rw [← HP]; exact hs) (by rw [← HP]; exact hx)
  rw [shG_mov hg] at h
  exact h
set_option maxHeartbeats 4000000 in
theorem iExtend {l : List Int} (hg : grpB l = true) (w : World) (a s x c : Nat) (ha : a < 2 ^ (prodI l).toNat) (hc : IsClo l a s) (hx : (x : Int) < prodI l) (hc2 : IsClo l (a ||| 2 ^ x) c) :
    Calls Tryz.prog 93 #[tV (l.getD 0 1) (l.getD 1 1) (l.getD 2 1), .int .u64 s, .int .i64 x] w fun e w' => e = .returned (.int .u64 (c : Nat)) ∧ Below w.heap.size w w' := by
  obtain ⟨m, m1, m2, m3⟩ := cosK_first hg hc.lt x
  have HM2 := Lib.hid m2
  have HEND := Lib.hid (fun k (h1 : 1 ≤ k) (hk : cosK l s x k = s) => (ext_clo (x := x) hg ha hc h1 hk).one hc2)
  have HIX := Lib.hid (fun k (h1 : 1 ≤ k) (h2 : k ≤ m) => idxK_at hg hc.lt m3 h1 h2)
  have HSH := Lib.hid (fun (W : World) (t : Nat) (ht : t < 2 ^ (prodI l).toNat) => iMov hg W t x ht hx)
  have HN24 : Hid ((prodI l).toNat ≤ 24) := Lib.hid (by have := (ords_grp hg).prod.2; omega)
  have HEX := Lib.hid (fun k => extK_lt hg s x k)
  have HCK := Lib.hid (fun k => cosK_lt hg s x k)
  have HSU := Lib.hid (fun k => cosK_succ hg (grp_pow hg hc.lt) x k)
  have HS := Lib.hid hc.lt
  have HE1 := Lib.hid (extK_one hg hc.lt x)
  have HC1 := Lib.hid (show movN l s x = cosK l s x 1 by rw [← cosK_succ hg (grp_pow hg hc.lt), cosK_zero hg hc.lt])
  obtain ⟨p, EP⟩ : ∃ p, Hid (l.getD 0 1 = p) := ⟨_, Lib.hid rfl⟩
  obtain ⟨q, EQ⟩ : ∃ q, Hid (l.getD 1 1 = q) := ⟨_, Lib.hid rfl⟩
  obtain ⟨r, ER⟩ : ∃ r, Hid (l.getD 2 1 = r) := ⟨_, Lib.hid rfl⟩
  rw [EP.out, EQ.out, ER.out] at HSH
  rw [EP.out, EQ.out, ER.out]
  obtain ⟨F, HF⟩ : ∃ F, Hid (cosK l s x = F) := ⟨_, Lib.hid rfl⟩
  obtain ⟨E, HE⟩ : ∃ E, Hid (extK l s x = E) := ⟨_, Lib.hid rfl⟩
  obtain ⟨X, HX⟩ : ∃ X, Hid (idxK l s x m = X) := ⟨_, Lib.hid rfl⟩
  have HES := Lib.hid (fun k => extK_succ l s x k)
  rw [HF.out] at HM2 HEND HIX HCK HSU HC1 HES
  rw [HE.out] at HEND HEX HE1 HES
  rw [HX.out] at HIX
  clear ha hc hx hc2 m2 m3 hg
  have HAL := Lib.hid (heap_alloc_new w (.cells #[.int .i64 p, .int .i64 q, .int .i64 r] 46))
  go_enter Tryz.func93, Tryz.ntmps93
  go_wp2_with (go_at_call 101; refine (HSH.out _ s HS.out).mono ?_; rw [HC1.out]; rintro e w1 ⟨rfl, hb1⟩)
  go_loopw [7, 8] (fun o c wr => ∃ k : Nat, 1 ≤ k ∧ k ≤ m ∧ o = .int .u64 (E k : Nat) ∧ c = .int .u64 (F k : Nat) ∧ Below (w.alloc (.cells #[.int .i64 p, .int .i64 q, .int .i64 r] 46)).heap.size (w.alloc (.cells #[.int .i64 p, .int .i64 q, .int .i64 r] 46)) wr) (fun _ c _ => m - X (intOf c))
  case atStart => exact ⟨1, Nat.le_refl _, m1, by rw [HE1.out], rfl, hb1⟩
  case round =>
    obtain ⟨k, k1, km, rfl, rfl, hbel⟩ := hrel
    obtain ⟨c0, c1, c2, _, _, _⟩ := trip_cell (keepH hbel (by simp) HAL.out)
    have HBL := Lib.hid hbel
    have HF1 := Lib.hid (HCK.out k)
    have HEk := Lib.hid (HEX.out k)
    have HOR := Lib.hid (orU' HN24.out HEk.out HF1.out)
    have HIk := Lib.hid (HIX.out k k1 km)
    have HE := Lib.hid (HEND.out k k1)
    have HSk := Lib.hid (HSU.out k)
    have HEk1 := Lib.hid (HES.out k)
    obtain ⟨u, hu⟩ : ∃ u, F k = u := ⟨_, rfl⟩
    obtain ⟨v, hv⟩ : ∃ v, E k = v := ⟨_, rfl⟩
    have HU := Lib.hid hu
    rw [hu] at HF1 HOR HIk HE HSk HEk1
    rw [hv] at HEk HOR HE HEk1
    rw [hu, hv]
    by_cases he : u = s
    · have hc := HE.out he
      have HCC := Lib.hid hc
      clear hbel HE HSU HES HEX HCK HIX HEND hc hu hv
      subst he
      go_wp2
      go_ret
      exact ⟨by first | rfl | (rw [HCC.out]; rfl), (Joins.below_alloc1 w _).trans (HBL.out.mono (by simp))⟩
    · have hne : ((u : Int) == (s : Int)) = false := by
        have : (u : Int) ≠ (s : Int) := by omega
        simpa using this
      have hlt : k < m := by
        rcases Nat.lt_or_ge k m with h | h
        · exact h
        · obtain rfl : k = m := by omega
          exact absurd (hu.symm.trans HM2.out) he
      have HI1 := Lib.hid (HIX.out (k + 1) (by omega) (by omega))
      have HORS := HOR.out
      clear hbel HE hu hv he
      go_wp2_with (go_at_call 101; refine (HSH.out _ u HF1.out).mono ?_; rw [HSk.out]; rintro e w5 ⟨rfl, hb5⟩)
      go_roundw
      case rel => exact ⟨k + 1, by omega, by omega, by rw [HEk1.out], rfl, HBL.out.trans (hb5.mono HBL.out.size)⟩
      case measure =>
        have h1 := HI1.out
        have h2 := HIk.out
        simp only [intOf]
        omega
end Go.Proofs.YthlpjiibjlaebaaGreatDoor

namespace Go.Proofs.YthlpjiibjlaebaaGreatDoor
open Go.RowKit Go.Shelf
attribute [local go_sem] Oper.semAt_some
set_option maxRecDepth 1000000
theorem clo_fun {l : List Int} (hg : grpB l = true) : ∃ C : Nat → Nat, ∀ a, a < 2 ^ 24 → IsClo l a (C a) := by
  obtain ⟨C, hC⟩ := Classical.skolem.1 (fun a : Nat => show ∃ c, a < 2 ^ 24 → IsClo l a c from by
    by_cases h : a < 2 ^ 24
    · obtain ⟨c, hc⟩ := clo_ex hg h
      exact ⟨c, fun _ => hc⟩
    · exact ⟨0, fun h2 => absurd h2 h⟩)
  exact ⟨C, hC⟩
theorem keeps_below0 {W W' : World} (h : Below W.heap.size W W') : KeepsOthers W W' := ⟨h.size, fun k _ ho _ => (h.block k (Array.getElem?_eq_some_iff.1 ho).1).trans ho⟩
set_option maxHeartbeats 4000000 in
theorem iGenerated {l : List Int} (hg : grpB l = true) (w : World) (s c : Nat) (hs : s < 2 ^ (prodI l).toNat) (hc : IsClo l s c) (B : Nat) (hB0 : B ≤ w.heap.size) (ht : TabZ B w) :
    Calls Tryz.prog 75 #[tV (l.getD 0 1) (l.getD 1 1) (l.getD 2 1), .int .u64 s] w fun e w' => e = .returned (.int .u64 (c : Nat)) ∧ Below w.heap.size w w' := by
  obtain ⟨C, hC⟩ := clo_fun hg
  have hs24 := grp_pow hg hs
  have hpl : ∀ L : List Nat, (∀ z ∈ L, s.testBit z = true) → prefN L < 2 ^ (prodI l).toNat := fun L h => prefN_lt fun z hz => by have := el_of hg hs (h z hz); omega
  have HEXT := Lib.hid (fun (W : World) (L : List Nat) (y : Nat) (hL : ∀ z ∈ L, s.testBit z = true) (hy : s.testBit y = true) =>
    iExtend hg W (prefN L) (C (prefN L)) y (C (prefN (L ++ [y]))) (hpl L hL) (hC _ (grp_pow hg (hpl L hL))) (el_of hg hs hy)
      (by
        have h2 := hpl (L ++ [y]) (fun z hz => by
          rcases List.mem_append.1 hz with h | h
          · exact hL z h
          · rw [List.mem_singleton.1 h]; exact hy)
        have h3 := hC _ (grp_pow hg h2)
        rw [← prefN_snoc]; exact h3))
  obtain ⟨G, HG⟩ : ∃ G : List Nat → Nat, Hid ((fun L => C (prefN L)) = G) := ⟨_, Lib.hid rfl⟩
  have hGv : ∀ L, C (prefN L) = G L := fun L => by rw [← HG.out]
  have HG0 : Hid (G [] = 1) := Lib.hid (by rw [← hGv]; exact (hC _ (by decide)).one (clo_nil hg))
  have HGE : Hid (G (bitsN s) = c) := Lib.hid (by rw [← hGv, prefN_all hs24]; exact (hC _ hs24).one hc)
  simp only [hGv] at HEXT
  obtain ⟨p, EP⟩ : ∃ p, Hid (l.getD 0 1 = p) := ⟨_, Lib.hid rfl⟩
  obtain ⟨q, EQ⟩ : ∃ q, Hid (l.getD 1 1 = q) := ⟨_, Lib.hid rfl⟩
  obtain ⟨r, ER⟩ : ∃ r, Hid (l.getD 2 1 = r) := ⟨_, Lib.hid rfl⟩
  rw [EP.out, EQ.out, ER.out] at HEXT
  rw [EP.out, EQ.out, ER.out]
  have HS := Lib.hid hs24
  clear hGv hpl hC hs24 hs hc hg
  refine (callsIn_wide (n := 4)).1 ?_
  refine callsIn_of_wp_marks Tryz.func75 rfl trivial ?_ rfl
  simp only [Tryz.ntmps75, List.size_toArray, List.length_cons, List.length_nil, Nat.reduceAdd, Nat.reduceSub, Array.replicate_succ, Array.replicate_zero, List.push_toArray, List.append_toArray, List.nil_append, List.cons_append]
  have B2 : Below w.heap.size w ((w.alloc (.cells #[.int .i64 p, .int .i64 q, .int .i64 r] 46)).alloc (.cells #[.int .u64 1] 55)) := Joins.below_alloc2 w _ _
  have L1 : ((w.alloc (.cells #[.int .i64 p, .int .i64 q, .int .i64 r] 46)).alloc (.cells #[.int .u64 1] 55)).heap[w.heap.size]? = some (.cells #[.int .i64 p, .int .i64 q, .int .i64 r] 46 (0, 0)) := keepH (Joins.below_alloc1 _ (.cells #[.int .u64 1] 55)) (by simp) (heap_alloc_new w (.cells #[.int .i64 p, .int .i64 q, .int .i64 r] 46))
  have L2 : ((w.alloc (.cells #[.int .i64 p, .int .i64 q, .int .i64 r] 46)).alloc (.cells #[.int .u64 1] 55)).heap[w.heap.size + 1]? = some (.cells #[.int .u64 1] 55 (0, 0)) := by simpa using heap_alloc_new (w.alloc (.cells #[.int .i64 p, .int .i64 q, .int .i64 r] 46)) (.cells #[.int .u64 1] 55)
  have HL1 := Lib.hid L1
  have HL2 := Lib.hid L2
  clear L1 L2
  gi_wp2
  refine each_loopP s HS.out rfl B
    (fun pre W => (W.heap[w.heap.size + 1]? = some (.cells #[.int .u64 (G pre : Nat)] 55 (0, 0)) ∧ W.heap[w.heap.size]? = some (.cells #[.int .i64 p, .int .i64 q, .int .i64 r] 46 (0, 0))) ∧ Below w.heap.size w W)
    (OwnFrom.and (Own.from (fun s W W' row hs hg hr => ⟨cells_own (w.heap.size + 1) (fun pre => #[.int .u64 (G pre : Nat)]) 55 s W W' row hs.1 hg hr, cells_own (β := List Nat) w.heap.size (fun _ => #[.int .i64 p, .int .i64 q, .int .i64 r]) 46 s W W' row hs.2 hg hr⟩) _) (ownFrom_below (Nat.le_refl _) (by simp; omega)))
    (fun pre W h => ht.on (h.2.mono hB0))
    ⟨⟨by rw [HG0.out]; exact HL2.out, HL1.out⟩, B2⟩
    (fun y => { tmps := #[tV p q r, .int .u64 s, .pointer (some ⟨w.heap.size, 0, none⟩), undef, .int .u64 0, .pointer (some ⟨w.heap.size + 1, 0, none⟩), .int .i64 (y : Nat), .int .u64 s, .func (.func 79) #[.int .u64 s] #[], .int .i64 (y : Nat), undef, undef, undef, undef, undef], defers := [] }) ?assign ?body ?done
  case assign =>
    intro l y W K hK
    gi_wp2
    exact hK
  case body =>
    rintro lo pre y W hpin hbt hpl ⟨⟨b1, b2⟩, hB⟩
    have HB1 := Lib.hid b1
    have HB2 := Lib.hid b2
    have HBW := Lib.hid hB
    have c1 : W.cell? ⟨w.heap.size + 1, 0, none⟩ = some (.int .u64 (G pre : Nat)) := by simp [World.cell?, b1]
    obtain ⟨d0, d1, d2, _, _, _⟩ := trip_cell b2
    have HX := Lib.hid (fun (W : World) => HEXT.out W pre y hpin hbt)
    obtain ⟨u, HU⟩ : ∃ u, Hid (G pre = u) := ⟨_, Lib.hid rfl⟩
    rw [HU.out] at c1 HX
    clear b1 b2 hB hpin hbt hpl
    gi_wp2
    refine ⟨trivial, ?_⟩
    refine (CallsIn.inRound lo (callsIn_wide.2 (HX.out _))).mono ?_
    rintro e W3 ⟨rfl, hb3⟩
    have hk1 := keepH hb3 (Array.getElem?_eq_some_iff.1 HB1.out).1 HB1.out
    have hk2 := keepH hb3 (Array.getElem?_eq_some_iff.1 HB2.out).1 HB2.out
    have HK1 := Lib.hid hk1
    have HK2 := Lib.hid hk2
    have HB3 := Lib.hid hb3
    have f1 : W3.frozen? ⟨w.heap.size + 1, 0, none⟩ = false := by simp [World.frozen?, hk1]
    have c3 : W3.cell? ⟨w.heap.size + 1, 0, none⟩ = some (.int .u64 u) := by rw [← HU.out]; simp [World.cell?, hk1]
    clear hk1 hk2 hb3
    gi_wp2
    have hk1 := HK1.out
    have hk2 := HK2.out
    exact ⟨rfl, (keeps_below0 (W := W) HB3.out).trans (KeepsOthers.setCell _ _ _), ⟨Boxed.set _ hk1, (grownBy_setCell' _ _ _).block _ (Array.getElem?_eq_some_iff.1 hk2).1 (by simp) |>.trans hk2⟩, (HBW.out.trans (HB3.out.mono HBW.out.size)).setCell (p := ⟨w.heap.size + 1, 0, none⟩) (by simp) _⟩
  case done =>
    rintro D W hD ⟨⟨b1, b2⟩, hB⟩ hK
    rw [HGE.out] at b1
    have c1 : W.cell? ⟨w.heap.size + 1, 0, none⟩ = some (.int .u64 (c : Nat)) := by simp [World.cell?, b1]
    gi_wp2
    refine ⟨by simp, .inl ⟨_, _, rfl, run_takeDeferred hK, ?_⟩⟩
    exact ⟨_, results_tmp rfl _ _ _, rfl, hB.trans (belowK_b (w := w) (Nat.le_refl _) W D _ _ (by simp at hD; omega) hK rfl rfl)⟩
end Go.Proofs.YthlpjiibjlaebaaGreatDoor
