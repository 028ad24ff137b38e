/- Merged: ConSpec WthI ConI QE GenJ. -/
import Derived.Test.YtaacofbmbpkeoaaGreatDoorMGAW
import Derived.Test.YtaacofbmbpkeoaaGreatDoorMGAC
import Derived.Test.YtaacofbmbpkeoaaGreatDoorMGAA
import Derived.OwnWalk
import Derived.Deep.RegionWith
import Derived.Deep.RegionLaw
import Derived.Test.YtaacofbmbpkeoaaGreatDoorMGAI
import Derived.Deep.RegionHeld3
import Derived.Deep.DeepCutAuto
import Derived.Test.YtaacofbmbpkeoaaGreatDoorMGAH
import Derived.Test.YtaacofbmbpkeoaaGreatDoorMGAU
import Derived.Test.YtaacofbmbpkeoaaGreatDoorMGAL
import Derived.Test.YtaacofbmbpkeoaaGreatDoorMGAR
namespace Go.Proofs.YtaacofbmbpkeoaaGreatDoor
open Go.RowKit
set_option maxRecDepth 1000000
def zrowV (f : Nat → Int) (n : Nat) : List Value := (zrow f n).map (Value.int .i64)
theorem zrowV_len (f : Nat → Int) (n : Nat) : (zrowV f n).length = n := by simp [zrowV, zrow_len]
theorem zrowV_zero (n : Nat) : zrowV (fun _ => 0) n = (madeCells #[Value.int .i64 0] n).toList := by
  rw [toList_madeCells_one]
  unfold zrowV zrow
  rw [List.map_map]
  apply List.ext_getElem <;> simp
theorem zrowV_at (f : Nat → Int) (n k : Nat) (h : k < n) : (zrowV f n)[k]? = some (.int .i64 (f k)) := by
  unfold zrowV zrow
  simp [h]
theorem zrowV_set (f : Nat → Int) (n k : Nat) (h : k < n) (d : Int) : (zrowV f n).set k (.int .i64 (f k + d)) = zrowV (fun z => f z + (if k = z then d else 0)) n := by
  apply List.ext_getElem?
  intro j
  unfold zrowV zrow
  by_cases hjn : j < n
  · by_cases e : k = j
    · subst e
      simp [h]
    · simp [e, hjn]
  · have : n ≤ j := by omega
    by_cases e : k = j
    · omega
    · simp [this]
theorem cell_grown8 {w w' : World} {g : Nat} (h : w.grownBy w' (some g)) {b k : Nat} (hb : b < w.heap.size) (hne : b ≠ g) {v : Option Value} (c : w.cell? ⟨b, k, none⟩ = v) : w'.cell? ⟨b, k, none⟩ = v := by
  rw [← c]
  unfold World.cell?
  simp only
  rw [h.block b hb (fun e => hne (by cases e; rfl))]
theorem _root_.Go.World.ownsRow.shrink8 {w : World} {B C n : Nat} {v : Value} {xs : List Value} (h : w.ownsRow B 3 1 v n xs) (hc : C ≤ B) : w.ownsRow C 3 1 v n xs := by
  obtain ⟨h1, h2⟩ := h
  refine ⟨h1, ?_⟩
  rcases h2 with h2 | ⟨g, cap, cur, e, a1, rest⟩
  · exact .inl h2
  · exact .inr ⟨g, cap, cur, e, Nat.le_trans hc a1, rest⟩
end Go.Proofs.YtaacofbmbpkeoaaGreatDoor

namespace Go.Proofs.YtaacofbmbpkeoaaGreatDoor
open Go.RowKit
set_option maxRecDepth 1000000
def wOk8 (c x : Int) : Bool := decide (-c ≤ x) && decide (x ≤ c)
end Go.Proofs.YtaacofbmbpkeoaaGreatDoor

namespace Go.Proofs.YtaacofbmbpkeoaaGreatDoor
open Go.RowKit
set_option maxRecDepth 1000000
theorem drew_of {w7 wi : World} {g : Nat} (_ : w7.grownBy wi (some g)) : Below wi.heap.size wi wi.drew := (Below.refl _ _).drew
/-- The places of two elements, their sums, and the element of these: by letters. -/
theorem con_el {l : List Int} (hg : grpB l = true) : ∃ (U V S : Int → Int) (A B C : Int → Int → Int),
    (∀ (W : World) (x : Int), 0 ≤ x → x ≤ 23 → Calls Tryz.prog 85 #[tV (l.getD 0 1) (l.getD 1 1) (l.getD 2 1), .int .i64 x] W fun e w' => e = .returned (tV (U x) (V x) (S x)) ∧ Below W.heap.size W w') ∧
    (∀ (W : World) (x y : Int), Calls Tryz.prog 94 #[tV (l.getD 0 1) (l.getD 1 1) (l.getD 2 1), tV (U x) (V x) (S x), tV (U y) (V y) (S y)] W fun e w' => e = .returned (tV (A x y) (B x y) (C x y)) ∧ Below W.heap.size W w') ∧
    (∀ (W : World) (x y : Int), Calls Tryz.prog 87 #[tV (l.getD 0 1) (l.getD 1 1) (l.getD 2 1), tV (A x y) (B x y) (C x y)] W fun e w' => e = .returned (.int .i64 (addN l x y)) ∧ Below W.heap.size W w') := by
  have HT := tri_grp hg
  refine ⟨fun x => x % l.getD 0 1, fun x => x / l.getD 0 1 % l.getD 1 1, fun x => x / l.getD 0 1 / l.getD 1 1 % l.getD 2 1, _, _, _, fun W x h0 h1 => iPlaces W _ _ _ x HT h0 h1, fun W x y => iAdd W _ _ _ _ _ _ _ _ _ HT (emod_b HT.p1) (emod_b HT.q1) (emod_b HT.r1) (emod_b HT.p1) (emod_b HT.q1) (emod_b HT.r1), fun W x y => ?_⟩
  rw [add_tri (grpB_true hg).1 x y (by have := HT.p1; omega)]
  exact iElement W _ _ _ _ _ _ HT (emod_b HT.p1) (emod_b HT.q1) (emod_b HT.r1)
end Go.Proofs.YtaacofbmbpkeoaaGreatDoor

namespace Go.Proofs.YtaacofbmbpkeoaaGreatDoor
open Go.RowKit
set_option maxRecDepth 1000000
theorem qiEng {W0 W : World} {au : Option Addr} {cu : Nat} {l : List Int} {x y : Int} {B : Nat} (hi : Ints W0 au l) (hl : l.length ≤ 4) (hB : B ≤ W0.heap.size) (ht : TabZ B W0) (o : On W0 W) :
    Calls Tryz.prog 20 #[.agg #[.slice au l.length cu], .int .i64 x, .int .i64 y] W fun e w' => e = .returned (.int .i64 (engE l x y)) ∧ On W0 w' :=
  (iEng W au l _ cu x y rfl (by omega) (o.ints hi) B (Nat.le_trans hB (Below.size o)) (o.tab hB ht)).mono fun _ _ h => ⟨h.1, o.step h.2⟩
theorem qsSum {W0 W : World} {au : Option Addr} {cu : Nat} {l : List Int} {x y : Int} (hi : Ints W0 au l) (hl : l.length ≤ 4) (o : On W0 W) :
    Calls Tryz.prog 9 #[.agg #[.slice au l.length cu], .int .i64 x, .int .i64 y] W fun e w' => e = .returned (.int .i64 (sumE l x y)) ∧ On W0 w' :=
  (sSum W au l _ cu x y rfl (by omega) (o.ints hi)).mono fun _ _ h => ⟨h.1, o.step h.2⟩
theorem qsCns {W0 W : World} {au : Option Addr} {cu : Nat} {l : List Int} {x : Int} (hi : Ints W0 au l) (hl : l.length ≤ 4) (o : On W0 W) :
    Calls Tryz.prog 15 #[.agg #[.slice au l.length cu], .int .i64 x] W fun e w' => e = .returned (.int .i64 (cntE l x)) ∧ On W0 w' :=
  (sCount W au l _ cu x rfl (by omega) (o.ints hi)).mono fun _ _ h => ⟨h.1, o.step h.2⟩
theorem qiCor {W0 W : World} {au : Option Addr} {cu : Nat} {l : List Int} {x y : Int} {B : Nat} (hi : Ints W0 au l) (hl : l.length ≤ 4) (hB : B ≤ W0.heap.size) (ht : TabZ B W0) (o : On W0 W) :
    Calls Tryz.prog 22 #[.agg #[.slice au l.length cu], .int .i64 x, .int .i64 y] W fun e w' => ∃ (a2 : Option Addr) (c2 : Nat), e = .returned (.slice a2 (corE l x y).length c2) ∧ Ints w' a2 (corE l x y) ∧ On W0 w' :=
  (iCor W au l _ cu x y rfl (by omega) (o.ints hi) B (Nat.le_trans hB (Below.size o)) (o.tab hB ht)).mono fun _ _ ⟨v, h1, h2, h3⟩ => by
    obtain ⟨a2, c2, rfl⟩ := own_slice h2
    exact ⟨a2, c2, h1, own_ints h2, o.step h3⟩
theorem total_wide (w : World) (a : Option Addr) (p : List Int) (n c : Nat) (hn : n = p.length) (hm : n ≤ 24) (hb : ∀ x ∈ p, -100000000000 ≤ x ∧ x ≤ 100000000000) (hi : Ints w a p) :
    Calls Tryz.prog 19 #[.slice a n c] w fun e w' => e = .returned (.int .i64 p.sum) ∧ w = w' := by
  have HI := Lib.hid hi
  have HN := Lib.hid hn
  have HBD := Lib.hid hb
  have HS : Hid (∀ k, k ≤ p.length → -(100000000000 * (k : Int)) ≤ (p.take k).sum ∧ (p.take k).sum ≤ 100000000000 * (k : Int)) := Lib.hid (by
    intro k
    induction k with
    | zero => intro _; simp
    | succ k ih =>
      intro hk
      have h1 := ih (by omega)
      have hkl : k < p.length := by omega
      have h2 := hb (p.getD k 0) (by simp [List.getD, hkl])
      rw [List.take_add_one, List.getElem?_eq_getElem hkl, List.sum_append]
      have h3 : p[k] = p.getD k 0 := by simp [List.getD, hkl]
      simp only [Option.toList_some, List.sum_cons, List.sum_nil, h3]
      omega)
  clear hi hn hb
  go_enter Tryz.func19, Tryz.ntmps19
  go_wp2
  go_loopw [3, 4] (fun s i wr => ∃ k : Nat, k ≤ n ∧ i = .int .i64 k ∧ s = .int .i64 (p.take k).sum ∧ w = wr) (fun _ i _ => n - (intOf i).toNat)
  case atStart => exact ⟨0, Nat.zero_le _, rfl, rfl, rfl⟩
  case round =>
    obtain ⟨k, hk, rfl, rfl, rfl⟩ := hrel
    by_cases hlt : k < n
    · have hkl : k < p.length := by rw [← HN.out]; exact hlt
      rcases HI.out with h0 | ⟨b, off, ha, hbl, hc⟩
      · rw [h0] at hkl; simp at hkl
      · subst ha
        have r1 := hc k hkl
        have h1 := HS.out k (by omega)
        have h2 := HBD.out (p.getD k 0) (by simp [List.getD, hkl])
        have HT : Hid ((p.take (k + 1)).sum = (p.take k).sum + p.getD k 0) := Lib.hid (by
          rw [List.take_add_one, List.getElem?_eq_getElem hkl, List.sum_append]
          simp [List.getD, hkl])
        obtain ⟨x, hx⟩ : ∃ x, p.getD k 0 = x := ⟨_, rfl⟩
        obtain ⟨s, hs⟩ : ∃ s, (p.take k).sum = s := ⟨_, rfl⟩
        rw [hx] at r1 h2 HT
        rw [hs] at h1 HT
        rw [hs]
        clear hx hs hc hkl hbl
        go_wp2
        go_roundw
        case rel => exact ⟨k + 1, by omega, by go_num, by rw [HT.out], by first | trivial | rfl⟩
        case measure => simp [intOf]; omega
    · obtain rfl : k = n := by omega
      go_wp2
      go_ret
      exact ⟨by rw [HN.out, List.take_length]; rfl, rfl⟩
theorem qTotW {W0 W : World} {a : Option Addr} {c : Nat} {p : List Int} (hp : p.length ≤ 24) (hb : ∀ x ∈ p, -100000000000 ≤ x ∧ x ≤ 100000000000) (hi : Ints W a p) (o : On W0 W) :
    Calls Tryz.prog 19 #[.slice a p.length c] W fun e w' => e = .returned (.int .i64 p.sum) ∧ On W0 w' :=
  (total_wide W a p _ c rfl hp hb hi).mono fun _ _ h => ⟨h.1, by rw [← h.2]; exact o⟩
theorem qSameP {W0 W : World} {a b : Option Addr} {ca cb : Nat} {p : List Int} (hp : p.length ≤ 1048576) (hi : Ints W a p) (hj : Ints W b p) (o : On W0 W) :
    Calls Tryz.prog 10 #[.slice a p.length ca, .slice b p.length cb] W fun e w' => e = .returned (.bool true) ∧ On W0 w' :=
  (sameInts_same W a b p _ ca cb rfl hp hi hj).mono fun _ _ h => ⟨h.1, o.step h.2⟩
end Go.Proofs.YtaacofbmbpkeoaaGreatDoor

namespace Go.Proofs.YtaacofbmbpkeoaaGreatDoor
open Go.RowKit Go.Shelf
attribute [local go_sem] Oper.semAt_some
set_option maxRecDepth 1000000
theorem clo_fun {l : List Int} (hg : grpB l = true) : ∃ C : Nat → Nat, ∀ a, a < 2 ^ 24 → IsClo l a (C a) := by
  obtain ⟨C, hC⟩ := Classical.skolem.1 (fun a : Nat => show ∃ c, a < 2 ^ 24 → IsClo l a c from by
    by_cases h : a < 2 ^ 24
    · obtain ⟨c, hc⟩ := clo_ex hg h
      exact ⟨c, fun _ => hc⟩
    · exact ⟨0, fun h2 => absurd h2 h⟩)
  exact ⟨C, hC⟩
theorem keeps_belowG {W W' : World} (h : Below W.heap.size W W') : KeepsOthers W W' := ⟨h.size, fun k _ ho _ => (h.block k (Array.getElem?_eq_some_iff.1 ho).1).trans ho⟩
set_option maxHeartbeats 4000000 in
theorem iGenerated {l : List Int} (hg : grpB l = true) (w : World) (s c : Nat) (hs : s < 2 ^ (prodI l).toNat) (hc : IsClo l s c) (B : Nat) (hB0 : B ≤ w.heap.size) (ht : TabZ B w) :
    Calls Tryz.prog 81 #[tV (l.getD 0 1) (l.getD 1 1) (l.getD 2 1), .int .u64 s] w fun e w' => e = .returned (.int .u64 (c : Nat)) ∧ Below w.heap.size w w' := by
  obtain ⟨C, hC⟩ := clo_fun hg
  have hs24 := grp_pow hg hs
  have hpl : ∀ L : List Nat, (∀ z ∈ L, s.testBit z = true) → prefN L < 2 ^ (prodI l).toNat := fun L h => prefN_lt fun z hz => by have := el_of hg hs (h z hz); omega
  have HEXT := Lib.hid (fun (W : World) (L : List Nat) (y : Nat) (hL : ∀ z ∈ L, s.testBit z = true) (hy : s.testBit y = true) =>
    iExtend hg W (prefN L) (C (prefN L)) y (C (prefN (L ++ [y]))) (hpl L hL) (hC _ (grp_pow hg (hpl L hL))) (el_of hg hs hy)
      (by
        have h2 := hpl (L ++ [y]) (fun z hz => by
          rcases List.mem_append.1 hz with h | h
          · exact hL z h
          · rw [List.mem_singleton.1 h]; exact hy)
        have h3 := hC _ (grp_pow hg h2)
        rw [← prefN_snoc]; exact h3))
  obtain ⟨G, HG⟩ : ∃ G : List Nat → Nat, Hid ((fun L => C (prefN L)) = G) := ⟨_, Lib.hid rfl⟩
  have hGv : ∀ L, C (prefN L) = G L := fun L => by rw [← HG.out]
  have HG0 : Hid (G [] = 1) := Lib.hid (by rw [← hGv]; exact (hC _ (by decide)).one (clo_nil hg))
  have HGE : Hid (G (bitsN s) = c) := Lib.hid (by rw [← hGv, prefN_all hs24]; exact (hC _ hs24).one hc)
  simp only [hGv] at HEXT
  obtain ⟨p, EP⟩ : ∃ p, Hid (l.getD 0 1 = p) := ⟨_, Lib.hid rfl⟩
  obtain ⟨q, EQ⟩ : ∃ q, Hid (l.getD 1 1 = q) := ⟨_, Lib.hid rfl⟩
  obtain ⟨r, ER⟩ : ∃ r, Hid (l.getD 2 1 = r) := ⟨_, Lib.hid rfl⟩
  rw [EP.out, EQ.out, ER.out] at HEXT
  rw [EP.out, EQ.out, ER.out]
  have HS := Lib.hid hs24
  clear hGv hpl hC hs24 hs hc hg
  refine (callsIn_wide (n := 4)).1 ?_
  refine callsIn_of_wp_marks Tryz.func81 rfl trivial ?_ rfl
  simp only [Tryz.ntmps81, List.size_toArray, List.length_cons, List.length_nil, Nat.reduceAdd, Nat.reduceSub, Array.replicate_succ, Array.replicate_zero, List.push_toArray, List.append_toArray, List.nil_append, List.cons_append]
  have B2 : Below w.heap.size w ((w.alloc (.cells #[.int .i64 p, .int .i64 q, .int .i64 r] 41)).alloc (.cells #[.int .u64 1] 43)) := Joins.below_alloc2 w _ _
  have L1 : ((w.alloc (.cells #[.int .i64 p, .int .i64 q, .int .i64 r] 41)).alloc (.cells #[.int .u64 1] 43)).heap[w.heap.size]? = some (.cells #[.int .i64 p, .int .i64 q, .int .i64 r] 41 (0, 0)) := keepH (Joins.below_alloc1 _ (.cells #[.int .u64 1] 43)) (by simp) (heap_alloc_new w (.cells #[.int .i64 p, .int .i64 q, .int .i64 r] 41))
  have L2 : ((w.alloc (.cells #[.int .i64 p, .int .i64 q, .int .i64 r] 41)).alloc (.cells #[.int .u64 1] 43)).heap[w.heap.size + 1]? = some (.cells #[.int .u64 1] 43 (0, 0)) := by simpa using heap_alloc_new (w.alloc (.cells #[.int .i64 p, .int .i64 q, .int .i64 r] 41)) (.cells #[.int .u64 1] 43)
  have HL1 := Lib.hid L1
  have HL2 := Lib.hid L2
  clear L1 L2
  gi_wp2
  refine each_loopP s HS.out rfl B
    (fun pre W => (W.heap[w.heap.size + 1]? = some (.cells #[.int .u64 (G pre : Nat)] 43 (0, 0)) ∧ W.heap[w.heap.size]? = some (.cells #[.int .i64 p, .int .i64 q, .int .i64 r] 41 (0, 0))) ∧ Below w.heap.size w W)
    (OwnFrom.and (Own.from (fun s W W' row hs hg hr => ⟨cells_own (w.heap.size + 1) (fun pre => #[.int .u64 (G pre : Nat)]) 43 s W W' row hs.1 hg hr, cells_own (β := List Nat) w.heap.size (fun _ => #[.int .i64 p, .int .i64 q, .int .i64 r]) 41 s W W' row hs.2 hg hr⟩) _) (ownFrom_below (Nat.le_refl _) (by simp; omega)))
    (fun pre W h => ht.on (h.2.mono hB0))
    ⟨⟨by rw [HG0.out]; exact HL2.out, HL1.out⟩, B2⟩
    (fun y => { tmps := #[tV p q r, .int .u64 s, .pointer (some ⟨w.heap.size, 0, none⟩), undef, .int .u64 0, .pointer (some ⟨w.heap.size + 1, 0, none⟩), .int .i64 (y : Nat), .int .u64 s, .func (.func 68) #[.int .u64 s] #[], .int .i64 (y : Nat), undef, undef, undef, undef, undef], defers := [] }) ?assign ?body ?done
  case assign =>
    intro l y W K hK
    gi_wp2
    exact hK
  case body =>
    rintro lo pre y W hpin hbt hpl ⟨⟨b1, b2⟩, hB⟩
    have HB1 := Lib.hid b1
    have HB2 := Lib.hid b2
    have HBW := Lib.hid hB
    have c1 : W.cell? ⟨w.heap.size + 1, 0, none⟩ = some (.int .u64 (G pre : Nat)) := by simp [World.cell?, b1]
    obtain ⟨d0, d1, d2, _, _, _⟩ := trip_cell b2
    have HX := Lib.hid (fun (W : World) => HEXT.out W pre y hpin hbt)
    obtain ⟨u, HU⟩ : ∃ u, Hid (G pre = u) := ⟨_, Lib.hid rfl⟩
    rw [HU.out] at c1 HX
    clear b1 b2 hB hpin hbt hpl
    gi_wp2
    refine ⟨trivial, ?_⟩
    refine (CallsIn.inRound lo (callsIn_wide.2 (HX.out _))).mono ?_
    rintro e W3 ⟨rfl, hb3⟩
    have hk1 := keepH hb3 (Array.getElem?_eq_some_iff.1 HB1.out).1 HB1.out
    have hk2 := keepH hb3 (Array.getElem?_eq_some_iff.1 HB2.out).1 HB2.out
    have HK1 := Lib.hid hk1
    have HK2 := Lib.hid hk2
    have HB3 := Lib.hid hb3
    have f1 : W3.frozen? ⟨w.heap.size + 1, 0, none⟩ = false := by simp [World.frozen?, hk1]
    have c3 : W3.cell? ⟨w.heap.size + 1, 0, none⟩ = some (.int .u64 u) := by rw [← HU.out]; simp [World.cell?, hk1]
    clear hk1 hk2 hb3
    gi_wp2
    have hk1 := HK1.out
    have hk2 := HK2.out
    exact ⟨rfl, (keeps_belowG (W := W) HB3.out).trans (KeepsOthers.setCell _ _ _), ⟨Boxed.set _ hk1, (grownBy_setCell' _ _ _).block _ (Array.getElem?_eq_some_iff.1 hk2).1 (by simp) |>.trans hk2⟩, (HBW.out.trans (HB3.out.mono HBW.out.size)).setCell (p := ⟨w.heap.size + 1, 0, none⟩) (by simp) _⟩
  case done =>
    rintro D W hD ⟨⟨b1, b2⟩, hB⟩ hK
    rw [HGE.out] at b1
    have c1 : W.cell? ⟨w.heap.size + 1, 0, none⟩ = some (.int .u64 (c : Nat)) := by simp [World.cell?, b1]
    gi_wp2
    refine ⟨by simp, .inl ⟨_, _, rfl, run_takeDeferred hK, ?_⟩⟩
    exact ⟨_, results_tmp rfl _ _ _, rfl, hB.trans (belowK_b (w := w) (Nat.le_refl _) W D _ _ (by simp at hD; omega) hK rfl rfl)⟩
end Go.Proofs.YtaacofbmbpkeoaaGreatDoor
