/- Merged: GrpSpec3 GrpSpec4 GrpSpec5 GrpSpec6. -/
import Derived.Test.YthlpjiibjlaebaaDoorGrpMath2
import Derived.Deep.QuietTactic
namespace Go.Proofs.YthlpjiibjlaebaaDoor
open Go.RowKit
set_option maxRecDepth 1000000
/-- Whether x is an element. -/
def isE (l : List Int) (x : Int) : Bool := decide (0 ≤ x) && decide (x < ordN l)
theorem isE_true {l : List Int} {x : Int} (h : isE l x = true) : grpB l = true ∧ 0 ≤ x ∧ x < prodI l ∧ x ≤ 23 := by
  simp only [isE, Bool.and_eq_true, decide_eq_true_eq] at h
  cases hg : grpB l with
  | false => rw [ordN_no hg] at h; omega
  | true =>
    rw [ordN_grp hg] at h
    have := (grpB_true hg).2.2
    exact ⟨rfl, h.1, h.2, by omega⟩
/-- The document's sum. -/
def addE (l : List Int) (x y : Int) : Int := if isE l x = true then (if isE l y = true then addN l x y else -1) else -1
end Go.Proofs.YthlpjiibjlaebaaDoor

namespace Go.Proofs.YthlpjiibjlaebaaDoor
open Go.RowKit
set_option maxRecDepth 1000000
/-- A place of the negative. -/
def ndig (l : List Int) (x : Int) (k : Nat) : Int := -(x / PK l k % l.getD k 0) % l.getD k 0
theorem ndig_bnd {l : List Int} (h : Ords l) (x : Int) {k : Nat} (hk : k < l.length) : 0 ≤ ndig l x k ∧ ndig l x k < l.getD k 0 := by
  have := h.pos k hk
  exact ⟨Int.emod_nonneg _ (by omega), Int.emod_lt_of_pos _ (by omega)⟩
theorem ndig_neg (l : List Int) (x : Int) : valK l (ndig l x) l.length = negN l x := by
  unfold negN mulN
  apply val_congr
  intro j _
  unfold ndig mulF
  rw [← neg_place, Int.sub_eq_add_neg, Int.add_comm, Int.add_emod_right]; rfl
set_option maxHeartbeats 1000000 in
theorem sNeg (w : World) (a : Option Addr) (l : List Int) (n cap : Nat) (x : Int) (hx0 : 0 ≤ x) (hx : x ≤ 23) (hn : n = l.length) (hg : grpB l = true) (hi : Ints w a l) :
    Calls Tryd.prog 82 #[.agg #[.slice a n cap], .int .i64 x] w fun e w' => e = .returned (.int .i64 (negN l x)) ∧ Below w.heap.size w w' := by
  have HI := Lib.hid hi
  have HN := Lib.hid hn
  have HG := Lib.hid hg
  have hn3 : n ≤ 3 := by rw [hn]; exact (grpB_true hg).1
  clear hi hn hg
  have C1 := newC w (.slice a n cap) 26 (n := w.heap.size) rfl
  have HB := Lib.hid (Joins.below_alloc1 w (.cells #[.slice a n cap] 26))
  have HX := Lib.hid (And.intro hx0 hx)
  clear hx0 hx
  go_enter Tryd.func82, Tryd.ntmps82
  go_wp2
  go_loop [1, 5, 6, 7] (fun u z p i => ∃ k : Nat, k ≤ n ∧ i = .int .i64 k ∧ p = .int .i64 (PK l k) ∧ u = .int .i64 (x / PK l k) ∧ z = .int .i64 (valK l (ndig l x) k)) (fun _ _ _ i => n - (intOf i).toNat)
  case atStart => exact ⟨0, by omega, rfl, by rw [PK_zero], by rw [PK_zero, Int.ediv_one], rfl⟩
  case round =>
    obtain ⟨k, hk, rfl, rfl, rfl, rfl⟩ := hrel
    by_cases hlt : k < n
    · have hkl2 : k < l.length := by rw [← HN.out]; exact hlt
      rcases HI.out with h0 | ⟨b, off, h1, hbl, hc⟩
      · rw [h0] at hkl2; simp at hkl2
      · subst h1
        have r1 : (w.alloc (.cells #[.slice (some ⟨b, off, none⟩) n cap] 26)).cell? ⟨b, off + k, none⟩ = some (.int .i64 (l.getD k 0)) := keepC (Joins.below_alloc1 w _) (by simpa using hbl) (hc k hkl2)
        have HS := Lib.hid (PK_succ l k hkl2)
        obtain ⟨p1, p2⟩ := PK_grp HG.out k (by omega)
        obtain ⟨q1, q2⟩ := PK_grp HG.out (k + 1) (by omega)
        rw [HS.out] at q1 q2
        obtain ⟨o1, o2⟩ := ord_at HG.out hkl2
        obtain ⟨x1, x2⟩ := quo_bnd HX.out.1 p1
        have x3 := Int.le_trans x2 HX.out.2
        obtain ⟨d1, d2⟩ := ndig_bnd (ords_grp HG.out) x hkl2
        obtain ⟨m1, m2⟩ := mul_lt24 d1 d2 o2 p1 p2
        obtain ⟨v1, v2⟩ := valK_bnd HG.out (ndig l x) k (by omega) (fun j hj => ndig_bnd (ords_grp HG.out) x (by omega))
        have QX := Lib.hid (quo_step l x k hkl2 (by omega))
        have HV : Hid (valK l (ndig l x) (k + 1) = valK l (ndig l x) k + ndig l x k * PK l k) := Lib.hid rfl
        have HD : ndig l x k = -(x / PK l k % l.getD k 0) % l.getD k 0 := rfl
        clear hc hkl2 x2
        rw [HD] at d1 d2 m1 m2 HV
        clear HD
        generalize valK l (ndig l x) k = z at *
        generalize x / PK l k = u at *
        generalize l.getD k 0 = c at *
        generalize PK l k = N at *
        have a1 : 0 ≤ u % c := Int.emod_nonneg _ (by omega)
        have a2 : u % c < c := Int.emod_lt_of_pos _ (by omega)
        go_wp2
        go_round
        case rel => exact ⟨k + 1, by omega, by go_num, by rw [HS.out], by rw [QX.out], by rw [HV.out]⟩
        case measure => simp [intOf]; omega
    · obtain rfl : k = n := by omega
      have HF : Hid (negN l x = valK l (ndig l x) k) := Lib.hid (by rw [HN.out, ndig_neg])
      go_wp2
      go_ret
      exact ⟨by rw [HF.out]; rfl, HB.out⟩
def negE (l : List Int) (x : Int) : Int := if isE l x = true then negN l x else -1
/-- The document's multiple. -/
def mulE (l : List Int) (x k : Int) : Int := if isE l x = true then (if -100 ≤ k ∧ k ≤ 100 then mulN l x k else -1) else -1
end Go.Proofs.YthlpjiibjlaebaaDoor

namespace Go.Proofs.YthlpjiibjlaebaaDoor
open Go.RowKit
set_option maxRecDepth 1000000
theorem lcm_yes {E c q : Int} (hE : 1 ≤ E) (hc : 1 ≤ c) (hd : E ∣ q) (hq : 1 ≤ q) (hL : q ≤ (E.lcm c : Nat)) (h : q % c = 0) : q = (E.lcm c : Nat) := by
  obtain ⟨e, rfl⟩ : ∃ n : Nat, E = n := ⟨E.toNat, by omega⟩
  obtain ⟨d, rfl⟩ : ∃ n : Nat, c = n := ⟨c.toNat, by omega⟩
  obtain ⟨p, rfl⟩ : ∃ n : Nat, q = n := ⟨q.toNat, by omega⟩
  have h1 : e ∣ p := Int.natCast_dvd_natCast.1 hd
  have h2 : d ∣ p := Int.natCast_dvd_natCast.1 (Int.dvd_of_emod_eq_zero h)
  have h3 : Nat.lcm e d ∣ p := Nat.lcm_dvd h1 h2
  have h4 := Nat.le_of_dvd (by omega) h3
  have h5 : ((e : Int).lcm (d : Int)) = Nat.lcm e d := rfl
  rw [h5] at hL ⊢
  omega
theorem lcm_no {E c q : Int} (hE : 1 ≤ E) (hc : 1 ≤ c) (hd : E ∣ q) (hq : 1 ≤ q) (hL : q ≤ (E.lcm c : Nat)) (h : q % c ≠ 0) : E ∣ q + E ∧ q + E ≤ (E.lcm c : Nat) := by
  refine ⟨Int.dvd_add hd (Int.dvd_refl _), ?_⟩
  obtain ⟨e, rfl⟩ : ∃ n : Nat, E = n := ⟨E.toNat, by omega⟩
  obtain ⟨d, rfl⟩ : ∃ n : Nat, c = n := ⟨c.toNat, by omega⟩
  obtain ⟨p, rfl⟩ : ∃ n : Nat, q = n := ⟨q.toNat, by omega⟩
  have h5 : ((e : Int).lcm (d : Int)) = Nat.lcm e d := rfl
  rw [h5] at hL ⊢
  have h1 : e ∣ p := Int.natCast_dvd_natCast.1 hd
  have h6 : p ≠ Nat.lcm e d := by
    intro e1
    have : d ∣ p := by rw [e1]; exact Nat.dvd_lcm_right _ _
    exact h (Int.emod_eq_zero_of_dvd (Int.natCast_dvd_natCast.2 this))
  have h7 : e ∣ Nat.lcm e d - p := Nat.dvd_sub (Nat.dvd_lcm_left _ _) h1
  have h8 := Nat.le_of_dvd (by omega) h7
  omega
def expE (l : List Int) : Int := if grpB l = true then lcmK l l.length else 0
end Go.Proofs.YthlpjiibjlaebaaDoor

namespace Go.Proofs.YthlpjiibjlaebaaDoor
open Go.RowKit
set_option maxRecDepth 1000000
theorem below_grown {w w' : World} (h : Below w.heap.size w w') (row : Option Nat) : w.grownBy w' row := ⟨h.os, h.tape, h.output, h.size, fun k hk _ => h.block k hk⟩
theorem owns_below {w w' : World} {B n : Nat} {e : TypeId} {v : Value} {xs : List Value} (h : w.ownsRow B e 1 v n xs) (hb : Below w.heap.size w w') : w'.ownsRow B e 1 v n xs :=
  h.kept (below_grown hb none) (by cases hv : v.ownBlock with
    | none => exact .inl rfl
    | some g => exact .inr (by simp))
/-- The places of an element. -/
def plc (l : List Int) (x : Int) : List Int := if isE l x = true then (List.range l.length).map (dig l x) else []
theorem isE_quo {l : List Int} {x : Int} (h : isE l x = true) {k : Nat} (hk : k ≤ l.length) : isE l (x / PK l k) = true := by
  obtain ⟨hg, h0, h1, h2⟩ := isE_true h
  obtain ⟨p1, p2⟩ := PK_grp hg k hk
  obtain ⟨q1, q2⟩ := quo_bnd h0 p1
  have e := ordN_grp hg
  simp only [isE, Bool.and_eq_true, decide_eq_true_eq]
  omega
/-- Places that are those of an element. -/
def ElemP (l p : List Int) : Prop := grpB l = true ∧ p.length = l.length ∧ ∀ j, j < l.length → 0 ≤ p.getD j 0 ∧ p.getD j 0 < l.getD j 0
instance (l p : List Int) : Decidable (ElemP l p) := by unfold ElemP; infer_instance
def elemV (l p : List Int) : Int := if ElemP l p then valK l (fun j => p.getD j 0) l.length else 0
theorem horner_bnd {x c p M : Int} (hx : 0 ≤ x) (hM : x + 1 ≤ M) (hp : 0 ≤ p) (hpc : p < c) (hc : c ≤ 24) : 0 ≤ x * c ∧ 0 ≤ x * c + p ∧ x * c + p + 1 ≤ M * 24 := by
  have h1 : 0 ≤ x * c := Int.mul_nonneg hx (by omega)
  have h2 : (x + 1) * c ≤ M * 24 := Int.mul_le_mul hM hc (by omega) (by omega)
  rw [Int.add_mul, Int.one_mul] at h2
  omega
end Go.Proofs.YthlpjiibjlaebaaDoor
