/- Merged: SubMath LstN SetIn. -/
import Derived.Test.YthlpjiibjlaebaaGreatDoorSumMath
import Derived.Test.YthlpjiibjlaebaaGreatDoorMGAJ
import Derived.Test.YthlpjiibjlaebaaGreatDoorMGAF
import Derived.Test.YthlpjiibjlaebaaGreatDoorMGAB
import Derived.Test.YthlpjiibjlaebaaGreatDoorMGAH
import Derived.Test.YthlpjiibjlaebaaGreatDoorMGAG
import Derived.Test.YthlpjiibjlaebaaGreatDoorMGAI
namespace Go.Proofs.YthlpjiibjlaebaaGreatDoor
/-- Every element of the first is one of the second. -/
def Part (s t : Nat) : Prop := ∀ k, s.testBit k = true → t.testBit k = true
theorem Part.same {s t : Nat} (h : Part s t) (g : Part t s) : s = t := bits_same fun i => ⟨h i, g i⟩
/-- s has 0, and a's elements do not lead out of it. -/
def Keeps (l : List Int) (a s : Nat) : Prop := s.testBit 0 = true ∧ ∀ x y : Nat, a.testBit x = true → s.testBit y = true → s.testBit (addN l (y : Int) (x : Int)).toNat = true
/-- s is what a generates. -/
structure IsClo (l : List Int) (a s : Nat) : Prop where
  lt : s < 2 ^ (prodI l).toNat
  keeps : Keeps l a s
  least : ∀ t, Keeps l a t → Part s t
theorem IsClo.one {l : List Int} {a s t : Nat} (h : IsClo l a s) (g : IsClo l a t) : s = t := (h.least t g.keeps).same (g.least s h.keeps)
/-- What stands while it is being made. -/
structure CloInv (l : List Int) (a s : Nat) : Prop where
  lt : s < 2 ^ (prodI l).toNat
  zero : s.testBit 0 = true
  least : ∀ t, Keeps l a t → Part s t
theorem cloInv_one {l : List Int} (hg : grpB l = true) (a : Nat) : CloInv l a 1 where
  lt := by
    have := (ords_grp hg).prod.1
    exact Nat.one_lt_two_pow (by omega)
  zero := rfl
  least := fun t h k hk => by
    cases k with
    | zero => exact h.1
    | succ k => rw [Nat.testBit_succ] at hk; simp at hk
theorem cloInv_step {l : List Int} (hg : grpB l = true) {a s : Nat} (ha : a < 2 ^ 24) (h : CloInv l a s) : CloInv l a (s ||| sumN l s a) where
  lt := Nat.or_lt_two_pow h.lt (sumN_lt hg s a)
  zero := by rw [Nat.testBit_or, h.zero]; rfl
  least := fun t ht k hk => by
    rw [Nat.testBit_or] at hk
    rcases Bool.or_eq_true_iff.1 hk with h1 | h1
    · exact h.least t ht k h1
    · obtain ⟨x, y, hx, hy, hz⟩ := (sumN_bit l (grp_pow hg h.lt) ha k).1 h1
      rw [← hz]; exact ht.2 x y hx (h.least t ht y hy)
theorem cloInv_end {l : List Int} (hg : grpB l = true) {a s : Nat} (ha : a < 2 ^ 24) (h : CloInv l a s) (he : s ||| sumN l s a = s) : IsClo l a s where
  lt := h.lt
  keeps := ⟨h.zero, fun x y hx hy => by
    rw [← he, Nat.testBit_or]
    exact Bool.or_eq_true_iff.2 (.inr ((sumN_bit l (grp_pow hg h.lt) ha _).2 ⟨x, y, hx, hy, rfl⟩))⟩
  least := h.least
theorem or_grow {s v : Nat} (h : s ||| v ≠ s) : s < s ||| v := by
  have : s ≤ s ||| v := Nat.left_le_or
  omega
theorem clo_from {l : List Int} (hg : grpB l = true) {a : Nat} (ha : a < 2 ^ 24) : ∀ (k s : Nat), 2 ^ 24 - s ≤ k → CloInv l a s → ∃ c, IsClo l a c
  | 0, s, hk, h => absurd (grp_pow hg h.lt) (by omega)
  | k + 1, s, hk, h => by
    by_cases he : s ||| sumN l s a = s
    · exact ⟨s, cloInv_end hg ha h he⟩
    · have h1 := or_grow he
      have h2 := cloInv_step hg ha h
      exact clo_from hg ha k _ (by omega) h2
theorem clo_ex {l : List Int} (hg : grpB l = true) {a : Nat} (ha : a < 2 ^ 24) : ∃ c, IsClo l a c := clo_from hg ha (2 ^ 24) 1 (by omega) (cloInv_one hg a)
theorem el_of {l : List Int} (hg : grpB l = true) {s k : Nat} (hs : s < 2 ^ (prodI l).toNat) (h : s.testBit k = true) : (k : Int) < prodI l := by
  have hp := (ords_grp hg).prod.1
  by_cases hk : (prodI l).toNat ≤ k
  · rw [bit_no hs k hk] at h; cases h
  · omega
theorem nat_add {l : List Int} (h : Ords l) (x y : Int) : (((addN l x y).toNat : Nat) : Int) = addN l x y := Int.toNat_of_nonneg (addN_in h x y).1
theorem nat_neg {l : List Int} (h : Ords l) (x : Int) : (((negN l x).toNat : Nat) : Int) = negN l x := Int.toNat_of_nonneg (negN_in h x).1
theorem zero_add' {l : List Int} (hg : grpB l = true) {x : Nat} (hx : (x : Int) < prodI l) : (addN l ((0 : Nat) : Int) (x : Int)).toNat = x := by
  rw [addN_comm, show (((0 : Nat) : Nat) : Int) = 0 from rfl, addN_zero (ords_grp hg) (by omega) hx]; simp
/-- What a generates holds a. -/
theorem IsClo.holds {l : List Int} (hg : grpB l = true) {a c : Nat} (ha : a < 2 ^ (prodI l).toNat) (h : IsClo l a c) : Part a c := fun x hx => by
  have := h.keeps.2 x 0 hx h.keeps.1
  rwa [zero_add' hg (el_of hg ha hx)] at this
/-- A subgroup: with 0, and its own sums. -/
def IsSg (l : List Int) (s : Nat) : Prop := s < 2 ^ (prodI l).toNat ∧ Keeps l s s
theorem IsClo.self {l : List Int} (hg : grpB l = true) {a c : Nat} (ha : a < 2 ^ (prodI l).toNat) (h : IsClo l a c) : c = a ↔ IsSg l a :=
  ⟨fun e => by subst e; exact ⟨ha, h.keeps⟩, fun s => (h.least a s.2).same (h.holds hg ha)⟩
/-- What a generates is a subgroup. -/
theorem IsClo.sg {l : List Int} (hg : grpB l = true) {a c : Nat} (h : IsClo l a c) : IsSg l c := by
  refine ⟨h.lt, h.keeps.1, fun x y hx hy => ?_⟩
  -- the elements x of c that lead into c from everywhere in c
  have hO := ords_grp hg
  have key : ∀ (k : Nat), c.testBit k = true → ∀ y, c.testBit y = true → c.testBit (addN l (y : Int) (k : Int)).toNat = true := by
    let t := orF (fun x : Nat => (x : Int)) ((bitsN c).filter fun x => (bitsN c).all fun y => c.testBit (addN l (y : Int) (x : Int)).toNat)
    have c24 := grp_pow hg h.lt
    have ht : ∀ k, t.testBit k = true ↔ c.testBit k = true ∧ ∀ y, c.testBit y = true → c.testBit (addN l (y : Int) (k : Int)).toNat = true := fun k => by
      show (orF _ _).testBit k = true ↔ _
      rw [orF_bit]
      constructor
      · rintro ⟨x, hx, e⟩
        rw [Int.toNat_natCast] at e
        subst e
        rw [List.mem_filter] at hx
        refine ⟨(mem_bits c24 _).1 hx.1, fun y hy => ?_⟩
        have := List.all_eq_true.1 hx.2 y ((mem_bits c24 y).2 hy)
        simpa using this
      · rintro ⟨h1, h2⟩
        refine ⟨k, List.mem_filter.2 ⟨(mem_bits c24 k).2 h1, List.all_eq_true.2 fun y hy => h2 y ((mem_bits c24 y).1 hy)⟩, by simp⟩
    have hk : Keeps l a t := by
      refine ⟨(ht 0).2 ⟨h.keeps.1, fun y hy => ?_⟩, fun x y hx hy => (ht _).2 ⟨h.keeps.2 x y hx ((ht y).1 hy).1, fun z hz => ?_⟩⟩
      · rw [show (((0 : Nat) : Nat) : Int) = 0 from rfl, addN_zero hO (by omega) (el_of hg h.lt hy)]; simpa using hy
      · rw [nat_add hO, ← addN_assoc hO, ← nat_add hO (z : Int) (y : Int)]
        exact h.keeps.2 x _ hx (((ht y).1 hy).2 z hz)
    exact fun k hk' => ((ht k).1 (h.least t hk k hk')).2
  exact key x hx y hy
end Go.Proofs.YthlpjiibjlaebaaGreatDoor

namespace Go.Proofs.YthlpjiibjlaebaaGreatDoor
open Go.RowKit
/-- The elements of a set, as ints. -/
def lstN (L : List Nat) : List Value := L.map fun (x : Nat) => Value.int .i64 (x : Int)
theorem lstN_snoc (L : List Nat) (x : Nat) : lstN (L ++ [x]) = lstN L ++ [.int .i64 (x : Nat)] := by simp [lstN]
theorem bits_le (s : Nat) : (bitsN s).length ≤ 24 := upK_len s 24
end Go.Proofs.YthlpjiibjlaebaaGreatDoor

namespace Go.Proofs.YthlpjiibjlaebaaGreatDoor
open Go.RowKit
set_option maxRecDepth 1000000
theorem below_set3a {B b : Nat} {w0 w : World} {x y z : Value} (h : Below B w0 w) (hb : B ≤ b) : Below B w0 (((w.setCell ⟨b, 0, none⟩ x).setCell ⟨b, 1, none⟩ y).setCell ⟨b, 2, none⟩ z) := below_set3 h hb
theorem iSetIn_no (w : World) (a : Option Addr) (l : List Int) (n cap : Nat) (s : Int) (hn : n = l.length) (hm : n ≤ 9223372036854775807) (hi : Ints w a l) (hs : isS l s = false) :
    Calls Tryz.prog 46 #[.agg #[.slice a n cap], .int .i64 s] w fun e w' => e = .returned (.tuple #[tV 0 0 0, .int .u64 0, .bool false]) ∧ Below w.heap.size w w' := by
  have HI := Lib.hid (ints_alloc (ints_alloc hi (.cells #[.slice a n cap] 26)) (.cells #[.int .i64 0, .int .i64 0, .int .i64 0] 46))
  have HN := Lib.hid hn
  have C1 := keepC (Joins.below_alloc1 _ (.cells #[.int .i64 0, .int .i64 0, .int .i64 0] 46)) (by simp <;> omega) (newC w (.slice a n cap) 26 (n := w.heap.size) rfl)
  have HB := Lib.hid (Joins.below_alloc2 w (.cells #[.slice a n cap] 26) (.cells #[.int .i64 0, .int .i64 0, .int .i64 0] 46))
  have R1 : Hid (((w.alloc (.cells #[.slice a n cap] 26)).alloc (.cells #[.int .i64 0, .int .i64 0, .int .i64 0] 46)).heap[w.heap.size + 1]? = some (.cells #[.int .i64 0, .int .i64 0, .int .i64 0] 46 (0, 0))) := Lib.hid (by simpa using heap_alloc_new (w.alloc (.cells #[.slice a n cap] 26)) (.cells #[.int .i64 0, .int .i64 0, .int .i64 0] 46))
  have T0 := Lib.hid (Below.refl ((w.alloc (.cells #[.slice a n cap] 26)).alloc (.cells #[.int .i64 0, .int .i64 0, .int .i64 0] 46)).heap.size ((w.alloc (.cells #[.slice a n cap] 26)).alloc (.cells #[.int .i64 0, .int .i64 0, .int .i64 0] 46)))
  clear hi hn
  cases hg : grpB l with
  | false =>
    have HG := Lib.hid hg
    clear hg hs
    go_enter Tryz.func46, Tryz.ntmps46
    go_wp2_with (first | (go_at_call 68; refine (iOrders _ _ _ _ _ HN.out hm HI.out).mono ?_; unfold OrdersPost; rw [HG.out]; rintro e w1 ⟨p, q, r, rfl, _, hb1⟩; have T1 := Lib.hid (T0.out.trans (hb1.mono T0.out.size)); have TA := Lib.hid (T1.out.alloc T1.out.size (.cells #[.int .i64 p, .int .i64 q, .int .i64 r] 46)); have c1 := keepC T1.out (by simp <;> omega) C1; obtain ⟨x10, x11, x12, x1f0, x1f1, x1f2⟩ := trip_cell (keepH T1.out (by simp <;> omega) R1.out); have c2 := keepC TA.out (by simp <;> omega) C1; obtain ⟨x20, x21, x22, x2f0, x2f1, x2f2⟩ := trip_cell (keepH TA.out (by simp <;> omega) R1.out)))
    refine bodyPost_ret (v := .tuple #[tV 0 0 0, .int .u64 0, .bool false]) (by simp [results, Tryz.results46, go_sem, x20, x21, x22]) rfl ⟨rfl, below_set3 (HB.out.trans (TA.out.mono (by simp <;> omega))) (by omega)⟩
  | true =>
    have HG := Lib.hid hg
    have HT := Lib.hid (tri_grp hg)
    have HP := prod_pad (grpB_true hg).1
    have HS := fullN_nat l
    rw [HP] at HS
    have hFb := full_bnd hg
    obtain ⟨p, EP⟩ : ∃ p, Hid (l.getD 0 1 = p) := ⟨_, Lib.hid rfl⟩
    obtain ⟨q, EQ⟩ : ∃ q, Hid (l.getD 1 1 = q) := ⟨_, Lib.hid rfl⟩
    obtain ⟨r, ER⟩ : ∃ r, Hid (l.getD 2 1 = r) := ⟨_, Lib.hid rfl⟩
    rw [EP.out, EQ.out, ER.out] at HT HS
    obtain ⟨N, EN⟩ : ∃ N, fullN l = N := ⟨_, rfl⟩
    rw [EN] at HS hFb
    have HFN := Lib.hid HS
    obtain ⟨f1, f2⟩ := hFb
    have hor : s < 0 ∨ (0 ≤ s ∧ N < s) := by
      simp only [isS, hg, EN, Bool.true_and, Bool.and_eq_false_iff, decide_eq_false_iff_not] at hs
      omega
    clear hg hs HP HS EN
    rcases hor with h | ⟨h, h2⟩
    · go_enter Tryz.func46, Tryz.ntmps46
      go_wp2_with (first
        | (go_at_call 68; refine (iOrders _ _ _ _ _ HN.out hm HI.out).mono ?_; unfold OrdersPost; rw [HG.out]; rintro e w1 ⟨p', q', r', rfl, hpqr, hb1⟩; obtain ⟨e1, e2, e3⟩ := hpqr rfl; clear hpqr; rw [EP.out] at e1; rw [EQ.out] at e2; rw [ER.out] at e3; subst e1 e2 e3; have T1 := Lib.hid (T0.out.trans (hb1.mono T0.out.size)); have TA := Lib.hid (T1.out.alloc T1.out.size (.cells #[.int .i64 p', .int .i64 q', .int .i64 r'] 46)); have c1 := keepC T1.out (by simp <;> omega) C1; obtain ⟨x10, x11, x12, x1f0, x1f1, x1f2⟩ := trip_cell (keepH T1.out (by simp <;> omega) R1.out); have c2 := keepC TA.out (by simp <;> omega) C1; obtain ⟨x20, x21, x22, x2f0, x2f1, x2f2⟩ := trip_cell (keepH TA.out (by simp <;> omega) R1.out); have R7 := Lib.hid (heap_alloc_new w1 (.cells #[.int .i64 p', .int .i64 q', .int .i64 r'] 46))))
      refine bodyPost_ret (v := .tuple #[tV 0 0 0, .int .u64 0, .bool false]) (by simp [results, Tryz.results46, go_sem, x20, x21, x22]) rfl ⟨rfl, below_set3 (HB.out.trans (TA.out.mono (by simp <;> omega))) (by omega)⟩
    · go_enter Tryz.func46, Tryz.ntmps46
      go_wp2_with (first
        | (go_at_call 72; refine (iFull _ _ _ _ _ HT.out HFN.out).mono ?_; rintro e w2 ⟨rfl, hb2⟩; have T2 := Lib.hid (TA.out.trans (hb2.mono TA.out.size)); have c3 := keepC T2.out (by simp <;> omega) C1; obtain ⟨x30, x31, x32, x3f0, x3f1, x3f2⟩ := trip_cell (keepH T2.out (by simp <;> omega) R1.out); obtain ⟨z30, z31, z32, z3f0, z3f1, z3f2⟩ := trip_cell (keepH hb2 (by simp <;> omega) R7.out))
        | (go_at_call 68; refine (iOrders _ _ _ _ _ HN.out hm HI.out).mono ?_; unfold OrdersPost; rw [HG.out]; rintro e w1 ⟨p', q', r', rfl, hpqr, hb1⟩; obtain ⟨e1, e2, e3⟩ := hpqr rfl; clear hpqr; rw [EP.out] at e1; rw [EQ.out] at e2; rw [ER.out] at e3; subst e1 e2 e3; have T1 := Lib.hid (T0.out.trans (hb1.mono T0.out.size)); have TA := Lib.hid (T1.out.alloc T1.out.size (.cells #[.int .i64 p', .int .i64 q', .int .i64 r'] 46)); have c1 := keepC T1.out (by simp <;> omega) C1; obtain ⟨x10, x11, x12, x1f0, x1f1, x1f2⟩ := trip_cell (keepH T1.out (by simp <;> omega) R1.out); have c2 := keepC TA.out (by simp <;> omega) C1; obtain ⟨x20, x21, x22, x2f0, x2f1, x2f2⟩ := trip_cell (keepH TA.out (by simp <;> omega) R1.out); have R7 := Lib.hid (heap_alloc_new w1 (.cells #[.int .i64 p', .int .i64 q', .int .i64 r'] 46))))
      refine bodyPost_ret (v := .tuple #[tV 0 0 0, .int .u64 0, .bool false]) (by simp [results, Tryz.results46, go_sem, x30, x31, x32]) rfl ⟨rfl, below_set3 (HB.out.trans (T2.out.mono (by simp <;> omega))) (by omega)⟩
theorem iSetIn_yes (w : World) (a : Option Addr) (l : List Int) (n cap : Nat) (s : Int) (hn : n = l.length) (hm : n ≤ 9223372036854775807) (hi : Ints w a l) (hs : isS l s = true) :
    Calls Tryz.prog 46 #[.agg #[.slice a n cap], .int .i64 s] w fun e w' => e = .returned (.tuple #[tV (l.getD 0 1) (l.getD 1 1) (l.getD 2 1), .int .u64 s, .bool true]) ∧ Below w.heap.size w w' := by
  have HI := Lib.hid (ints_alloc (ints_alloc hi (.cells #[.slice a n cap] 26)) (.cells #[.int .i64 0, .int .i64 0, .int .i64 0] 46))
  have HN := Lib.hid hn
  have C1 := keepC (Joins.below_alloc1 _ (.cells #[.int .i64 0, .int .i64 0, .int .i64 0] 46)) (by simp <;> omega) (newC w (.slice a n cap) 26 (n := w.heap.size) rfl)
  have HB := Lib.hid (Joins.below_alloc2 w (.cells #[.slice a n cap] 26) (.cells #[.int .i64 0, .int .i64 0, .int .i64 0] 46))
  have R1 : Hid (((w.alloc (.cells #[.slice a n cap] 26)).alloc (.cells #[.int .i64 0, .int .i64 0, .int .i64 0] 46)).heap[w.heap.size + 1]? = some (.cells #[.int .i64 0, .int .i64 0, .int .i64 0] 46 (0, 0))) := Lib.hid (by simpa using heap_alloc_new (w.alloc (.cells #[.slice a n cap] 26)) (.cells #[.int .i64 0, .int .i64 0, .int .i64 0] 46))
  have T0 := Lib.hid (Below.refl ((w.alloc (.cells #[.slice a n cap] 26)).alloc (.cells #[.int .i64 0, .int .i64 0, .int .i64 0] 46)).heap.size ((w.alloc (.cells #[.slice a n cap] 26)).alloc (.cells #[.int .i64 0, .int .i64 0, .int .i64 0] 46)))
  clear hi hn
  have hg := (isS_true hs).1
  have HG := Lib.hid hg
  have HT := Lib.hid (tri_grp hg)
  have HP := prod_pad (grpB_true hg).1
  have HS := fullN_nat l
  rw [HP] at HS
  have hFb := full_bnd hg
  obtain ⟨p, EP⟩ : ∃ p, Hid (l.getD 0 1 = p) := ⟨_, Lib.hid rfl⟩
  obtain ⟨q, EQ⟩ : ∃ q, Hid (l.getD 1 1 = q) := ⟨_, Lib.hid rfl⟩
  obtain ⟨r, ER⟩ : ∃ r, Hid (l.getD 2 1 = r) := ⟨_, Lib.hid rfl⟩
  rw [EP.out, EQ.out, ER.out] at HT HS
  obtain ⟨N, EN⟩ : ∃ N, fullN l = N := ⟨_, rfl⟩
  rw [EN] at HS hFb
  have HFN := Lib.hid HS
  obtain ⟨f1, f2⟩ := hFb
  have hor : 0 ≤ s ∧ s ≤ N := by
    simp only [isS, hg, EN, Bool.true_and, Bool.and_eq_true, decide_eq_true_eq] at hs
    exact hs
  obtain ⟨h1, h2⟩ := hor
  rw [EP.out, EQ.out, ER.out]
  clear hg hs HP HS EN
  go_enter Tryz.func46, Tryz.ntmps46
  go_wp2_with (first
    | (go_at_call 72; refine (iFull _ _ _ _ _ HT.out HFN.out).mono ?_; rintro e w2 ⟨rfl, hb2⟩; have T2 := Lib.hid (TA.out.trans (hb2.mono TA.out.size)); have c3 := keepC T2.out (by simp <;> omega) C1; obtain ⟨x30, x31, x32, x3f0, x3f1, x3f2⟩ := trip_cell (keepH T2.out (by simp <;> omega) R1.out); obtain ⟨z30, z31, z32, z3f0, z3f1, z3f2⟩ := trip_cell (keepH hb2 (by simp <;> omega) R7.out))
    | (go_at_call 68; refine (iOrders _ _ _ _ _ HN.out hm HI.out).mono ?_; unfold OrdersPost; rw [HG.out]; rintro e w1 ⟨p', q', r', rfl, hpqr, hb1⟩; obtain ⟨e1, e2, e3⟩ := hpqr rfl; clear hpqr; rw [EP.out] at e1; rw [EQ.out] at e2; rw [ER.out] at e3; subst e1 e2 e3; have T1 := Lib.hid (T0.out.trans (hb1.mono T0.out.size)); have TA := Lib.hid (T1.out.alloc T1.out.size (.cells #[.int .i64 p', .int .i64 q', .int .i64 r'] 46)); have c1 := keepC T1.out (by simp <;> omega) C1; obtain ⟨x10, x11, x12, x1f0, x1f1, x1f2⟩ := trip_cell (keepH T1.out (by simp <;> omega) R1.out); have c2 := keepC TA.out (by simp <;> omega) C1; obtain ⟨x20, x21, x22, x2f0, x2f1, x2f2⟩ := trip_cell (keepH TA.out (by simp <;> omega) R1.out); have R7 := Lib.hid (heap_alloc_new w1 (.cells #[.int .i64 p', .int .i64 q', .int .i64 r'] 46))))
  refine bodyPost_ret (v := .tuple #[tV p' q' r', .int .u64 s, .bool true]) (by simp [results, Tryz.results46, go_sem, x30, x31, x32]) rfl ⟨rfl, below_set3 (HB.out.trans (T2.out.mono (by simp <;> omega))) (by omega)⟩
/-- What setIn answers. -/
def SetInPost (l : List Int) (s : Int) (w : World) (e : Ending) (w' : World) : Prop :=
  ∃ p q r v, e = .returned (.tuple #[tV p q r, .int .u64 v, .bool (isS l s)]) ∧ (isS l s = true → p = l.getD 0 1 ∧ q = l.getD 1 1 ∧ r = l.getD 2 1 ∧ v = s) ∧ Below w.heap.size w w'
theorem iSetIn (w : World) (a : Option Addr) (l : List Int) (n cap : Nat) (s : Int) (hn : n = l.length) (hm : n ≤ 9223372036854775807) (hi : Ints w a l) :
    Calls Tryz.prog 46 #[.agg #[.slice a n cap], .int .i64 s] w (SetInPost l s w) := by
  unfold SetInPost
  cases hs : isS l s with
  | false => exact (iSetIn_no w a l n cap s hn hm hi hs).mono fun e w' ⟨he, hb⟩ => ⟨0, 0, 0, 0, he, (fun h => by cases h), hb⟩
  | true => exact (iSetIn_yes w a l n cap s hn hm hi hs).mono fun e w' ⟨he, hb⟩ => ⟨_, _, _, _, he, fun _ => ⟨rfl, rfl, rfl, rfl⟩, hb⟩
/-- The number of the full set; 0 of what is no group. -/
def fullE (l : List Int) : Int := if grpB l = true then fullN l else 0
end Go.Proofs.YthlpjiibjlaebaaGreatDoor
