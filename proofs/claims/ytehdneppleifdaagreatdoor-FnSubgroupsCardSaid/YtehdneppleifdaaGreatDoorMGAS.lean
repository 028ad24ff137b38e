/- Merged: NumI SgsN SgsI SgsLaw. -/
import Derived.Test.YtehdneppleifdaaGreatDoorMGAQ
import Derived.Test.YtehdneppleifdaaGreatDoorMGAP
import Derived.Test.YtehdneppleifdaaGreatDoorSgSpec
import Derived.Test.YtehdneppleifdaaGreatDoorSubsI
import Derived.Test.YtehdneppleifdaaGreatDoorMGAN
import Derived.Deep.RegionHeld3
import Derived.Deep.DeepCutAuto
namespace Go.Proofs.YtehdneppleifdaaGreatDoor
open Go.RowKit Go.Shelf
attribute [local go_sem] Oper.semAt_some
set_option maxRecDepth 1000000
theorem eleInfo : (Tryz.prog.info? 43).map (fun i => (i.zero, i.size, i.bytes)) = some (some (.int .u64 0), 1, 8) := by kernel_rfl
/-- A row of sets that can be read. -/
def Els (w : World) (a : Option Addr) (L : List Nat) : Prop := L = [] ∨ ∃ b off, a = some ⟨b, off, none⟩ ∧ b < w.heap.size ∧ ∀ i, i < L.length → w.cell? ⟨b, off + i, none⟩ = some (.int .u64 ((L.getD i 0 : Nat) : Int))
def elV (x : Nat) : Value := .int .u64 ((x : Nat) : Int)
theorem els_own {w : World} {B n : Nat} {v : Value} {L : List Nat} (hn : n = L.length) (h : w.ownsRow B 43 1 v n (L.map elV)) : ∃ a cap, v = .slice a n cap ∧ Els w a L := by
  subst hn
  have h0 := h
  obtain ⟨_, h2⟩ := h
  rcases h2 with ⟨h2, h3⟩ | ⟨g, cap, cur, rfl, _, _⟩
  · have hl : L = [] := by simpa using h3
    subst hl
    exact ⟨none, 0, h2, .inl rfl⟩
  · refine ⟨some ⟨g, 0, none⟩, cap, rfl, ?_⟩
    by_cases hl : L = []
    · exact .inl hl
    · refine .inr ⟨g, 0, rfl, (h0.lt g rfl).2, fun i hi => ?_⟩
      have hg := h0.cellAt i (by omega)
      rw [show (⟨g, 0 + i, none⟩ : Addr) = ⟨g, i, none⟩ by simp, hg]
      simp [List.getD, hi, elV]
theorem Els.below {w w' : World} {a : Option Addr} {L : List Nat} (h : Els w a L) (hb : Below w.heap.size w w') : Els w' a L := by
  rcases h with h | ⟨b, off, h1, h2, h3⟩
  · exact .inl h
  · exact .inr ⟨b, off, h1, Nat.lt_of_lt_of_le h2 hb.size, fun i hi => (hb.cell (by simpa using h2)).trans (h3 i hi)⟩
/-- Sets as their numbers. -/
def NLi (L : List Nat) : List Int := L.map fun (x : Nat) => (x : Int)
theorem NLi_len (L : List Nat) : (NLi L).length = L.length := by simp [NLi]
theorem NLi_at (L : List Nat) (k : Nat) (h : k < L.length) : (NLi L).getD k 0 = ((L.getD k 0 : Nat) : Int) := by simp [NLi, List.getD, h]
set_option maxHeartbeats 1000000 in
theorem iNumbers (w : World) (a : Option Addr) (L : List Nat) (n cap : Nat) (hn : n = L.length) (hl : n ≤ 1048576) (hlt : ∀ x ∈ L, x < 16777216) (he : Els w a L) :
    Calls Tryz.prog 37 #[.slice a n cap] w fun e w' => e = .returned (.slice (some ⟨w.heap.size, 0, none⟩) n n) ∧ w'.ownsRow w.heap.size 3 1 (.slice (some ⟨w.heap.size, 0, none⟩) n n) n ((NLi L).map (Value.int .i64)) ∧ Below w.heap.size w w' := by
  have HE := Lib.hid he
  have HLT := Lib.hid hlt
  have HN : Hid (n = (NLi L).length) := Lib.hid (by rw [NLi_len]; exact hn)
  have HNL := Lib.hid hn
  clear he hlt hn
  obtain ⟨i0, hi, hz0, hz1, hz2⟩ := info_parts intInfo
  go_enter Tryz.func37, Tryz.ntmps37
  go_wp2_with (at_make; refine wpList_make_full _ rfl _ _ 24 rfl w.heap.size 3 i0 (.int .i64 0) 1 Tryz.underlying24 hi hz0 hz1 .i64 .i64 _ _ n rfl rfl ?c0 ?c00 ?c1 ?c2 ?c3 ?_)
  case c0 => rfl
  case c00 => rfl
  case c1 => rw [hz2]; omega
  case c2 => unfold maxLen; omega
  case c3 => omega
  intro w1 hown hgrow
  have hrow : w1.ownsRow w.heap.size 3 1 (.slice (some ⟨w.heap.size, 0, none⟩) n n) n (rowI (NLi L) 0) := by rw [rowI_zero, ← HN.out]; simpa using hown
  have hbel1 : Below w.heap.size w w1 := (Below.refl _ w).grown hgrow (Nat.le_refl _) (fun q hq => by cases hq)
  clear hown hgrow
  go_wp2
  go_loopw [11] (fun i wr => ∃ k : Nat, k ≤ n ∧ i = .int .i64 k ∧ wr.ownsRow w.heap.size 3 1 (.slice (some ⟨w.heap.size, 0, none⟩) n n) n (rowI (NLi L) k) ∧ Below w.heap.size w wr) (fun i _ => n - (intOf i).toNat)
  case atStart => exact ⟨0, Nat.zero_le _, rfl, hrow, hbel1⟩
  case round =>
    obtain ⟨k, hk, rfl, hr, hbel⟩ := hrel
    by_cases hlt : k < n
    · have hkl : k < L.length := by rw [← HNL.out]; exact hlt
      have hkn : k < (NLi L).length := by rw [← HN.out]; exact hlt
      rcases HE.out with h0 | ⟨b, off, ha, hbl, hc⟩
      · rw [h0] at hkl; simp at hkl
      · subst ha
        have hread : wr.cell? ⟨b, off + k, none⟩ = some (.int .u64 ((L.getD k 0 : Nat) : Int)) := by rw [hbel.cell (by simpa using hbl)]; exact hc k hkl
        have hfr := hr.frozenAt k
        have hcell : wr.cell? ⟨w.heap.size, k, none⟩ = some (.int .i64 0) := (hr.cellAt k (by omega)).trans (by rw [rowI_at _ _ _ hkn, if_neg (by omega)])
        have hst := (hr.stored k (.int .i64 ((NLi L).getD k 0))).1
        rw [rowI_set _ _ hkn, NLi_at _ _ hkl] at hst
        have HST := Lib.hid hst
        have hz : L.getD k 0 < 16777216 := HLT.out _ (by simp [List.getD, hkl])
        generalize L.getD k 0 = z at hread HST hz
        clear hst hc hkl hkn
        go_wp2
        go_roundw
        case rel => exact ⟨k + 1, by omega, by go_num, HST.out, hbel.setCell (Nat.le_refl _) _⟩
        case measure => simp [intOf]; omega
    · obtain rfl : k = n := by omega
      have hr2 := hr
      rw [show rowI (NLi L) k = (NLi L).map (Value.int .i64) by rw [HN.out, rowI_full]] at hr2
      have HR := Lib.hid hr2
      clear hr hr2
      go_wp2
      go_ret
      exact ⟨rfl, HR.out, hbel⟩
end Go.Proofs.YtehdneppleifdaaGreatDoor

namespace Go.Proofs.YtehdneppleifdaaGreatDoor
open Go.RowKit
theorem clo_fun2 {l : List Int} (hg : grpB l = true) : ∃ C : Nat → Nat, ∀ a, a < 2 ^ 24 → IsClo l a (C a) := by
  obtain ⟨C, hC⟩ := Classical.skolem.1 (fun a : Nat => show ∃ c, a < 2 ^ 24 → IsClo l a c from by
    by_cases h : a < 2 ^ 24
    · obtain ⟨c, hc⟩ := clo_ex hg h
      exact ⟨c, fun _ => hc⟩
    · exact ⟨0, fun h2 => absurd h2 h⟩)
  exact ⟨C, hC⟩
theorem nodup_sub : ∀ (L M : List Nat), L.Nodup → (∀ x ∈ L, x ∈ M) → L.length ≤ M.length
  | [], _, _, _ => Nat.zero_le _
  | a :: r, M, hn, h => by
    have ha := h a (by simp)
    have h1 := nodup_sub r (M.erase a) (List.nodup_cons.1 hn).2 (fun x hx => (List.mem_erase_of_ne (fun e => (List.nodup_cons.1 hn).1 (by rw [← e]; exact hx))).2 (h x (by simp [hx])))
    have h2 := List.length_erase_of_mem ha
    have h3 := List.length_pos_of_mem ha
    simp only [List.length_cons]
    omega
/-- At most so many subgroups. -/
theorem sg_len {l : List Int} {L : List Nat} (h : SgList l L) : L.length ≤ 13824 := by
  cases hg : grpB l with
  | false =>
    obtain rfl : L = [] := by
      apply List.eq_nil_iff_forall_not_mem.2
      intro m hm
      have := ((h.2 m).1 hm).1
      rw [hg] at this
      cases this
    simp
  | true =>
    obtain ⟨C, hC⟩ := clo_fun2 hg
    have hP := (ords_grp hg).prod
    have h1 := nodup_sub L ((List.range 13824).map fun i => sumN l (sumN l (C (2 ^ (i / 576))) (C (2 ^ (i / 24 % 24)))) (C (2 ^ (i % 24)))) (h.1.imp fun h => Nat.ne_of_lt h) (fun s hs => by
      obtain ⟨x, y, z, a, b, c, hx, hy, hz, ha, hb, hc, he⟩ := sum3 hg ((h.2 s).1 hs).2
      have x24 : x < 24 := by omega
      have y24 : y < 24 := by omega
      have z24 : z < 24 := by omega
      have p24 : ∀ k, k < 24 → 2 ^ k < 2 ^ 24 := fun k hk => Nat.pow_lt_pow_right (by decide) hk
      refine List.mem_map.2 ⟨x * 576 + y * 24 + z, List.mem_range.2 (by omega), ?_⟩
      have e1 : (x * 576 + y * 24 + z) / 576 = x := by omega
      have e2 : (x * 576 + y * 24 + z) / 24 % 24 = y := by omega
      have e3 : (x * 576 + y * 24 + z) % 24 = z := by omega
      show sumN l (sumN l (C (2 ^ ((x * 576 + y * 24 + z) / 576))) (C (2 ^ ((x * 576 + y * 24 + z) / 24 % 24)))) (C (2 ^ ((x * 576 + y * 24 + z) % 24))) = s
      rw [e1, e2, e3, (hC _ (p24 x x24)).one ha, (hC _ (p24 y y24)).one hb, (hC _ (p24 z z24)).one hc, he])
    rwa [List.length_map, List.length_range] at h1
theorem sg_ex (l : List Int) : ∃ L, SgList l L := by
  refine ⟨(List.range (2 ^ (prodI l).toNat)).filter fun m => @decide (grpB l = true ∧ IsSg l m) (Classical.propDecidable _), List.pairwise_lt_range.filter _, fun m => ?_⟩
  rw [List.mem_filter, List.mem_range]
  simp only [decide_eq_true_eq]
  exact ⟨fun h => h.2, fun h => ⟨h.2.1, h⟩⟩
end Go.Proofs.YtehdneppleifdaaGreatDoor

namespace Go.Proofs.YtehdneppleifdaaGreatDoor
open Go.RowKit Go.Shelf
set_option maxRecDepth 1000000
set_option maxHeartbeats 4000000 in
theorem iSubsOf (w : World) (a : Option Addr) (l : List Int) (n cap : Nat) (L : List Nat) (hL : SgList l L) (hn : n = l.length) (hm : n ≤ 9223372036854775807) (hi : Ints w a l) :
    Calls Tryz.prog 10 #[.agg #[.slice a n cap]] w fun e w' => ∃ v, e = .returned (.tuple #[v, .bool (grpB l)]) ∧ w'.ownsRow w.heap.size 3 1 v L.length ((NL L).map (Value.int .i64)) ∧ Below w.heap.size w w' := by
  have HI := Lib.hid (ints_alloc hi (.cells #[.slice a n cap] 26))
  have HN := Lib.hid hn
  have HL := Lib.hid hL
  have C1 := newC w (.slice a n cap) 26 (n := w.heap.size) rfl
  have HB := Lib.hid (Joins.below_alloc1 w (.cells #[.slice a n cap] 26))
  have hlen := sg_len hL
  clear hi hn hL
  cases hg : grpB l with
  | false =>
    have HG := Lib.hid hg
    obtain rfl : L = [] := SgList.one HL.out ⟨List.Pairwise.nil, fun m => ⟨(fun h => by cases h), (fun h => by rw [hg] at h; cases h.1)⟩⟩
    clear hg
    go_enter Tryz.func10, Tryz.ntmps10
    go_wp2_with (go_at_call 36; refine (iOrders _ _ _ _ _ HN.out hm HI.out).mono ?_; unfold OrdersPost; rw [HG.out]; rintro e w1 ⟨x, y, z, rfl, _, hb1⟩; have TA := Lib.hid ((HB.out.trans (hb1.mono (by simp))).alloc (Nat.le_trans (by simp) hb1.size) (.cells #[.int .i64 x, .int .i64 y, .int .i64 z] 41)); clear hb1)
    go_ret2
    exact ⟨_, rfl, World.ownsRow_nil _ _ _ _, TA.out⟩
  | true =>
    have HG := Lib.hid hg
    have HGG := Lib.hid hg
    obtain ⟨p, EP⟩ : ∃ p, Hid (l.getD 0 1 = p) := ⟨_, Lib.hid rfl⟩
    obtain ⟨q, EQ⟩ : ∃ q, Hid (l.getD 1 1 = q) := ⟨_, Lib.hid rfl⟩
    obtain ⟨r, ER⟩ : ∃ r, Hid (l.getD 2 1 = r) := ⟨_, Lib.hid rfl⟩
    have HSB := Lib.hid (fun (W : World) => iSubs hg W L HL.out)
    rw [EP.out, EQ.out, ER.out] at HSB
    have HLT : Hid (∀ x ∈ L, x < 16777216) := Lib.hid (fun x hx => grp_pow hg ((HL.out.2 x).1 hx).2.1)
    clear hg
    go_enter Tryz.func10, Tryz.ntmps10
    go_wp2_with (first
      | (go_at_call 37; refine (iNumbers w2 (some ⟨g2, 0, none⟩) L L.length cap2 rfl (by omega) HLT.out HEL.out).mono ?_; rintro e w3 ⟨rfl, ho3, hb3⟩)
      | (go_at_call 38; refine (HSB.out _).mono ?_; rintro e w2 ⟨v2, rfl, ⟨g2, cap2, rfl, _⟩, ho2, hb2⟩; obtain ⟨a2, cap3, e2, hels⟩ := els_own rfl ho2; cases e2; have HEL := Lib.hid hels; have T2 := Lib.hid (TA.out.trans (hb2.mono TA.out.size)); clear hels ho2 hb2)
      | (go_at_call 36; refine (iOrders _ _ _ _ _ HN.out hm HI.out).mono ?_; unfold OrdersPost; rw [HG.out]; rintro e w1 ⟨p', q', r', rfl, hpqr, hb1⟩; obtain ⟨e1, e2, e3⟩ := hpqr rfl; clear hpqr; rw [EP.out] at e1; rw [EQ.out] at e2; rw [ER.out] at e3; subst e1 e2 e3; have TA := Lib.hid ((HB.out.trans (hb1.mono (by simp))).alloc (Nat.le_trans (by simp) hb1.size) (.cells #[.int .i64 p', .int .i64 q', .int .i64 r'] 41)); obtain ⟨d0, d1, d2, _, _, _⟩ := trip_cell (heap_alloc_new w1 (.cells #[.int .i64 p', .int .i64 q', .int .i64 r'] 41)); clear hb1))
    go_ret2
    exact ⟨_, rfl, Joins.ownsRow_le ho3 T2.out.size, T2.out.trans (hb3.mono T2.out.size)⟩
end Go.Proofs.YtehdneppleifdaaGreatDoor

namespace Go.Proofs.YtehdneppleifdaaGreatDoor
open Go.RowKit
theorem sSubsM (w : World) (a : Option Addr) (l : List Int) (n cap : Nat) {L : List Nat} {M : List Int} (hL : SgList l L) (hM : M = NL L) (hn : n = l.length) (hm : n ≤ 9223372036854775807) (hi : Ints w a l) :
    Calls Tryz.prog 11 #[.agg #[.slice a n cap]] w fun e w' => ∃ v, e = .returned (.tuple #[v, .bool (grpB l)]) ∧ w'.ownsRow w.heap.size 3 1 v M.length (M.map (Value.int .i64)) ∧ Below w.heap.size w w' := by
  subst hM
  exact (sSubs w a l n cap L hL hn hm hi).mono fun e w' ⟨v, h1, h2, h3⟩ => ⟨v, h1, by rw [NL_len]; exact h2.2.1, h3⟩
theorem iSubsM (w : World) (a : Option Addr) (l : List Int) (n cap : Nat) {L : List Nat} {M : List Int} (hL : SgList l L) (hM : M = NL L) (hn : n = l.length) (hm : n ≤ 9223372036854775807) (hi : Ints w a l) :
    Calls Tryz.prog 10 #[.agg #[.slice a n cap]] w fun e w' => ∃ v, e = .returned (.tuple #[v, .bool (grpB l)]) ∧ w'.ownsRow w.heap.size 3 1 v M.length (M.map (Value.int .i64)) ∧ Below w.heap.size w w' := by
  subst hM
  exact (iSubsOf w a l n cap L hL hn hm hi).mono fun e w' ⟨v, h1, h2, h3⟩ => ⟨v, h1, by rw [NL_len]; exact h2, h3⟩
end Go.Proofs.YtehdneppleifdaaGreatDoor
