/- Merged: GenJ SgsMath. -/
import Derived.Test.YtehdneppleifdaaGreatDoorMGAQ
import Derived.Test.YtehdneppleifdaaGreatDoorSgSpec
namespace Go.Proofs.YtehdneppleifdaaGreatDoor
open Go.RowKit Go.Shelf
attribute [local go_sem] Oper.semAt_some
set_option maxRecDepth 1000000
theorem clo_fun {l : List Int} (hg : grpB l = true) : ∃ C : Nat → Nat, ∀ a, a < 2 ^ 24 → IsClo l a (C a) := by
  obtain ⟨C, hC⟩ := Classical.skolem.1 (fun a : Nat => show ∃ c, a < 2 ^ 24 → IsClo l a c from by
    by_cases h : a < 2 ^ 24
    · obtain ⟨c, hc⟩ := clo_ex hg h
      exact ⟨c, fun _ => hc⟩
    · exact ⟨0, fun h2 => absurd h2 h⟩)
  exact ⟨C, hC⟩
theorem keeps_below0 {W W' : World} (h : Below W.heap.size W W') : KeepsOthers W W' := ⟨h.size, fun k _ ho _ => (h.block k (Array.getElem?_eq_some_iff.1 ho).1).trans ho⟩
set_option maxHeartbeats 4000000 in
theorem iGenerated {l : List Int} (hg : grpB l = true) (w : World) (s c : Nat) (hs : s < 2 ^ (prodI l).toNat) (hc : IsClo l s c) (B : Nat) (hB0 : B ≤ w.heap.size) (ht : TabZ B w) :
    Calls Tryz.prog 30 #[tV (l.getD 0 1) (l.getD 1 1) (l.getD 2 1), .int .u64 s] w fun e w' => e = .returned (.int .u64 (c : Nat)) ∧ Below w.heap.size w w' := by
  obtain ⟨C, hC⟩ := clo_fun hg
  have hs24 := grp_pow hg hs
  have hpl : ∀ L : List Nat, (∀ z ∈ L, s.testBit z = true) → prefN L < 2 ^ (prodI l).toNat := fun L h => prefN_lt fun z hz => by have := el_of hg hs (h z hz); omega
  have HEXT := Lib.hid (fun (W : World) (L : List Nat) (y : Nat) (hL : ∀ z ∈ L, s.testBit z = true) (hy : s.testBit y = true) =>
    iExtend hg W (prefN L) (C (prefN L)) y (C (prefN (L ++ [y]))) (hpl L hL) (hC _ (grp_pow hg (hpl L hL))) (el_of hg hs hy)
      (by
        have h2 := hpl (L ++ [y]) (fun z hz => by
          rcases List.mem_append.1 hz with h | h
          · exact hL z h
          · rw [List.mem_singleton.1 h]; exact hy)
        have h3 := hC _ (grp_pow hg h2)
        rw [← prefN_snoc]; exact h3))
  obtain ⟨G, HG⟩ : ∃ G : List Nat → Nat, Hid ((fun L => C (prefN L)) = G) := ⟨_, Lib.hid rfl⟩
  have hGv : ∀ L, C (prefN L) = G L := fun L => by rw [← HG.out]
  have HG0 : Hid (G [] = 1) := Lib.hid (by rw [← hGv]; exact (hC _ (by decide)).one (clo_nil hg))
  have HGE : Hid (G (bitsN s) = c) := Lib.hid (by rw [← hGv, prefN_all hs24]; exact (hC _ hs24).one hc)
  simp only [hGv] at HEXT
  obtain ⟨p, EP⟩ : ∃ p, Hid (l.getD 0 1 = p) := ⟨_, Lib.hid rfl⟩
  obtain ⟨q, EQ⟩ : ∃ q, Hid (l.getD 1 1 = q) := ⟨_, Lib.hid rfl⟩
  obtain ⟨r, ER⟩ : ∃ r, Hid (l.getD 2 1 = r) := ⟨_, Lib.hid rfl⟩
  rw [EP.out, EQ.out, ER.out] at HEXT
  rw [EP.out, EQ.out, ER.out]
  have HS := Lib.hid hs24
  clear hGv hpl hC hs24 hs hc hg
  refine (callsIn_wide (n := 4)).1 ?_
  refine callsIn_of_wp_marks Tryz.func30 rfl trivial ?_ rfl
  simp only [Tryz.ntmps30, List.size_toArray, List.length_cons, List.length_nil, Nat.reduceAdd, Nat.reduceSub, Array.replicate_succ, Array.replicate_zero, List.push_toArray, List.append_toArray, List.nil_append, List.cons_append]
  have B2 : Below w.heap.size w ((w.alloc (.cells #[.int .i64 p, .int .i64 q, .int .i64 r] 41)).alloc (.cells #[.int .u64 1] 43)) := Joins.below_alloc2 w _ _
  have L1 : ((w.alloc (.cells #[.int .i64 p, .int .i64 q, .int .i64 r] 41)).alloc (.cells #[.int .u64 1] 43)).heap[w.heap.size]? = some (.cells #[.int .i64 p, .int .i64 q, .int .i64 r] 41 (0, 0)) := keepH (Joins.below_alloc1 _ (.cells #[.int .u64 1] 43)) (by simp) (heap_alloc_new w (.cells #[.int .i64 p, .int .i64 q, .int .i64 r] 41))
  have L2 : ((w.alloc (.cells #[.int .i64 p, .int .i64 q, .int .i64 r] 41)).alloc (.cells #[.int .u64 1] 43)).heap[w.heap.size + 1]? = some (.cells #[.int .u64 1] 43 (0, 0)) := by simpa using heap_alloc_new (w.alloc (.cells #[.int .i64 p, .int .i64 q, .int .i64 r] 41)) (.cells #[.int .u64 1] 43)
  have HL1 := Lib.hid L1
  have HL2 := Lib.hid L2
  clear L1 L2
  gi_wp2
  refine each_loopP s HS.out rfl B
    (fun pre W => (W.heap[w.heap.size + 1]? = some (.cells #[.int .u64 (G pre : Nat)] 43 (0, 0)) ∧ W.heap[w.heap.size]? = some (.cells #[.int .i64 p, .int .i64 q, .int .i64 r] 41 (0, 0))) ∧ Below w.heap.size w W)
    (OwnFrom.and (Own.from (fun s W W' row hs hg hr => ⟨cells_own (w.heap.size + 1) (fun pre => #[.int .u64 (G pre : Nat)]) 43 s W W' row hs.1 hg hr, cells_own (β := List Nat) w.heap.size (fun _ => #[.int .i64 p, .int .i64 q, .int .i64 r]) 41 s W W' row hs.2 hg hr⟩) _) (ownFrom_below (Nat.le_refl _) (by simp; omega)))
    (fun pre W h => ht.on (h.2.mono hB0))
    ⟨⟨by rw [HG0.out]; exact HL2.out, HL1.out⟩, B2⟩
    (fun y => { tmps := #[tV p q r, .int .u64 s, .pointer (some ⟨w.heap.size, 0, none⟩), undef, .int .u64 0, .pointer (some ⟨w.heap.size + 1, 0, none⟩), .int .i64 (y : Nat), .int .u64 s, .func (.func 60) #[.int .u64 s] #[], .int .i64 (y : Nat), undef, undef, undef, undef, undef], defers := [] }) ?assign ?body ?done
  case assign =>
    intro l y W K hK
    gi_wp2
    exact hK
  case body =>
    rintro lo pre y W hpin hbt hpl ⟨⟨b1, b2⟩, hB⟩
    have HB1 := Lib.hid b1
    have HB2 := Lib.hid b2
    have HBW := Lib.hid hB
    have c1 : W.cell? ⟨w.heap.size + 1, 0, none⟩ = some (.int .u64 (G pre : Nat)) := by simp [World.cell?, b1]
    obtain ⟨d0, d1, d2, _, _, _⟩ := trip_cell b2
    have HX := Lib.hid (fun (W : World) => HEXT.out W pre y hpin hbt)
    obtain ⟨u, HU⟩ : ∃ u, Hid (G pre = u) := ⟨_, Lib.hid rfl⟩
    rw [HU.out] at c1 HX
    clear b1 b2 hB hpin hbt hpl
    gi_wp2
    refine ⟨trivial, ?_⟩
    refine (CallsIn.inRound lo (callsIn_wide.2 (HX.out _))).mono ?_
    rintro e W3 ⟨rfl, hb3⟩
    have hk1 := keepH hb3 (Array.getElem?_eq_some_iff.1 HB1.out).1 HB1.out
    have hk2 := keepH hb3 (Array.getElem?_eq_some_iff.1 HB2.out).1 HB2.out
    have HK1 := Lib.hid hk1
    have HK2 := Lib.hid hk2
    have HB3 := Lib.hid hb3
    have f1 : W3.frozen? ⟨w.heap.size + 1, 0, none⟩ = false := by simp [World.frozen?, hk1]
    have c3 : W3.cell? ⟨w.heap.size + 1, 0, none⟩ = some (.int .u64 u) := by rw [← HU.out]; simp [World.cell?, hk1]
    clear hk1 hk2 hb3
    gi_wp2
    have hk1 := HK1.out
    have hk2 := HK2.out
    exact ⟨rfl, (keeps_below0 (W := W) HB3.out).trans (KeepsOthers.setCell _ _ _), ⟨Boxed.set _ hk1, (grownBy_setCell' _ _ _).block _ (Array.getElem?_eq_some_iff.1 hk2).1 (by simp) |>.trans hk2⟩, (HBW.out.trans (HB3.out.mono HBW.out.size)).setCell (p := ⟨w.heap.size + 1, 0, none⟩) (by simp) _⟩
  case done =>
    rintro D W hD ⟨⟨b1, b2⟩, hB⟩ hK
    rw [HGE.out] at b1
    have c1 : W.cell? ⟨w.heap.size + 1, 0, none⟩ = some (.int .u64 (c : Nat)) := by simp [World.cell?, b1]
    gi_wp2
    refine ⟨by simp, .inl ⟨_, _, rfl, run_takeDeferred hK, ?_⟩⟩
    exact ⟨_, results_tmp rfl _ _ _, rfl, hB.trans (belowK_b (w := w) (Nat.le_refl _) W D _ _ (by simp at hD; omega) hK rfl rfl)⟩
end Go.Proofs.YtehdneppleifdaaGreatDoor

namespace Go.Proofs.YtehdneppleifdaaGreatDoor
open Go.RowKit
/-- What sets of the first x elements generate. -/
def Known (l : List Int) (x c : Nat) : Prop := ∃ a, a < 2 ^ x ∧ IsClo l a c
theorem clo_or {l : List Int} (hg : grpB l = true) {a h x c : Nat} (ha : a < 2 ^ (prodI l).toNat) (hc : IsClo l a h) : IsClo l (a ||| 2 ^ x) c ↔ IsClo l (h ||| 2 ^ x) c := by
  obtain ⟨m, m1, m2, m3⟩ := cosK_first hg hc.lt x
  have hself : IsClo l h h := by
    obtain ⟨d, hd⟩ := clo_ex hg (show h < 2 ^ 24 from grp_pow hg hc.lt)
    have := (hd.self hg hc.lt).2 (hc.sg hg)
    rwa [this] at hd
  have h1 := ext_clo (x := x) hg ha hc m1 m2
  have h2 := ext_clo (x := x) hg hc.lt hself m1 m2
  exact ⟨fun k => by rw [k.one h1]; exact h2, fun k => by rw [k.one h2]; exact h1⟩
theorem Known.lt {l : List Int} (hg : grpB l = true) {x c : Nat} (h : Known l x c) : c < 16777216 := by
  obtain ⟨a, _, hc⟩ := h
  exact grp_pow hg hc.lt
theorem known_zero {l : List Int} (hg : grpB l = true) (c : Nat) : Known l 0 c ↔ c = 1 := by
  have h0 : IsClo l 0 1 := clo_nil hg
  constructor
  · rintro ⟨a, ha, hc⟩
    obtain rfl : a = 0 := by simpa using ha
    exact hc.one h0
  · rintro rfl
    exact ⟨0, by simp, h0⟩
theorem known_step {l : List Int} (hg : grpB l = true) {C : Nat → Nat} (hC : ∀ a, a < 2 ^ 24 → IsClo l a (C a)) {x : Nat} (hx : x < (prodI l).toNat) (c : Nat) : Known l (x + 1) c ↔ Known l x c ∨ ∃ h, Known l x h ∧ c = C (h ||| 2 ^ x) := by
  have hP := (ords_grp hg).prod
  have hp2 : 2 ^ (x + 1) = 2 ^ x + 2 ^ x := by rw [Nat.pow_succ]; omega
  have hle : ∀ a, a < 2 ^ x → a < 2 ^ (prodI l).toNat := fun a ha => Nat.lt_of_lt_of_le ha (Nat.pow_le_pow_right (by decide) (by omega))
  have hxx : 2 ^ x < 2 ^ (prodI l).toNat := Nat.pow_lt_pow_right (by decide) hx
  have hor : ∀ h, h < 2 ^ (prodI l).toNat → h ||| 2 ^ x < 2 ^ 24 := fun h hh => grp_pow hg (Nat.or_lt_two_pow hh hxx)
  constructor
  · rintro ⟨a, ha, hc⟩
    by_cases hl : a < 2 ^ x
    · exact .inl ⟨a, hl, hc⟩
    · obtain ⟨b, rfl⟩ : ∃ b, a = 2 ^ x + b := ⟨a - 2 ^ x, by omega⟩
      have hb : b < 2 ^ x := by omega
      have hbb : 2 ^ x + b = b ||| 2 ^ x := by
        have := Nat.two_pow_add_eq_or_of_lt hb 1
        rw [Nat.mul_one] at this
        rw [this, Nat.or_comm]
      rw [hbb] at hc
      have hcb := hC b (grp_pow hg (hle b hb))
      refine .inr ⟨C b, ⟨b, hb, hcb⟩, ?_⟩
      exact ((clo_or hg (hle b hb) hcb).1 hc).one (hC _ (hor _ hcb.lt))
  · rintro (⟨a, ha, hc⟩ | ⟨h, ⟨a, ha, hc⟩, rfl⟩)
    · exact ⟨a, by omega, hc⟩
    · refine ⟨a ||| 2 ^ x, Nat.or_lt_two_pow (by omega) (by omega), (clo_or hg (hle a ha) hc).2 (hC _ (hor _ hc.lt))⟩
theorem known_end {l : List Int} (hg : grpB l = true) (c : Nat) : Known l (prodI l).toNat c ↔ IsSg l c := by
  constructor
  · rintro ⟨a, ha, hc⟩
    exact hc.sg hg
  · intro hs
    obtain ⟨d, hd⟩ := clo_ex hg (show c < 2 ^ 24 from grp_pow hg hs.1)
    have := (hd.self hg hs.1).2 hs
    rw [this] at hd
    exact ⟨c, hs.1, hd⟩
end Go.Proofs.YtehdneppleifdaaGreatDoor
