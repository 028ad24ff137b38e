/- Merged: KeysC KeysS KMap KCopy. -/
import Derived.Test.YtiponiflebmooaaKeysL
import Derived.Test.YtiponiflebmooaaSrt12
import Derived.Maps.Own
import Derived.Maps.Views
import Derived.MapFrom
import Derived.Carry
namespace Go.Proofs.Ytiponiflebmooaa
open Go.RowKit Go.Shelf Go.Maps
attribute [local go_sem] Oper.semAt_some
set_option maxRecDepth 1000000
theorem elemInfo : (Try.prog.info? 50).map (fun i => (i.zero, i.size, i.bytes)) = some (some (.int .u64 0), 1, 8) := by kernel_rfl
theorem eV_snoc (L : List Nat) (x : Nat) : (L ++ [x]).map eV = L.map eV ++ [.int .u64 ((x : Nat) : Int)] := by simp [eV]
set_option maxHeartbeats 2000000 in
theorem iApp (w : World) (p b nn : Nat) (D0 : DataW Unit) (hnn : nn ≤ 16777216) (hp : Boxed w p 51 (.map (some b))) (hown : w.ownsMap Try.prog 50 RB b nn D0) :
    Calls Try.prog 38 #[.slice none 0 0, .func (.func 35) #[] #[.pointer (some ⟨p, 0, none⟩)]] w fun e w' => ∃ (v : Value) (ss : List Nat), e = .returned v ∧ (∀ x : Nat, x ∈ ss ↔ has D0 (kL x) = true) ∧ ss.Nodup ∧ ss.length ≤ nn ∧ w'.ownsRow w.heap.size 50 1 v ss.length (ss.map eV) ∧ Below w.heap.size w w' := by
  obtain ⟨i0, hi, hz0, hz1, hz2⟩ := info_parts elemInfo
  refine (callsIn_wide (n := 4)).1 ?_
  refine callsIn_of_wp_marks Try.func38 rfl trivial ?_ rfl
  simp only [Try.ntmps38, List.size_toArray, List.length_cons, List.length_nil, Nat.reduceAdd, Nat.reduceSub, Array.replicate_succ, Array.replicate_zero, List.push_toArray, List.append_toArray, List.nil_append, List.cons_append]
  gi_wp2
  have bO := Boxed.new w 45 (.slice none 0 0)
  have hB2 : Below w.heap.size w (w.alloc (.cells #[.slice none 0 0] 45)) := (Below.refl w.heap.size w).alloc (Nat.le_refl _) _
  refine keys_loop p b nn D0 (hp.alloc _) (hown.alloc _) rfl
    (fun pre W => (∃ v, Boxed W w.heap.size 45 v ∧ W.ownsRow w.heap.size 50 1 v pre.length (pre.map eV) ∧ True) ∧ Below w.heap.size w W)
    (OwnFrom.and (Own.from (holdsRow_own w.heap.size w.heap.size 45 50 1 (fun (pre : List Nat) => pre.length) (fun pre => pre.map eV) (fun _ _ => True)) _) (ownFrom_below (Nat.le_refl _) (by simp)))
    ⟨⟨_, bO, World.ownsRow_nil _ _ _ _, trivial⟩, hB2⟩
    (fun x => { tmps := #[.slice none 0 0, .func (.func 35) #[] #[.pointer (some ⟨p, 0, none⟩)], .pointer (some ⟨w.heap.size, 0, none⟩), undef, .slice none 0 0, .int .u64 ((x : Nat) : Int),
      .func (.func 35) #[] #[.pointer (some ⟨p, 0, none⟩)], .int .u64 ((x : Nat) : Int), undef, undef, undef, undef, undef], defers := [] }) ?assign ?body ?done
  case assign =>
    intro l x W K hK
    gi_wp2
    exact hK
  case body =>
    rintro l pre x W hpl ⟨⟨v, hv, hrow, -⟩, hB⟩
    have hcl := hv.cell
    gi_wp2_with (gi_at_builtin; refine wpListIn_append_own _ rfl _ _ 45 rfl w.heap.size 50 i0 (.int .u64 0) 1 8 Try.underlying45 hi hz0 hz1 hz2 rfl (by decide) _ _ _ rfl (hrow.alloc _) ⟨W.heap.size, 0, none⟩ 1 1 [.int .u64 ((x : Nat) : Int)] rfl rfl (cell_one_new _ _ _) (by simp [Value.oneCell']) (by unfold maxLen; omega) (by omega) (by have := hB.size; simp; omega) ?_; intro v' w3 hown' hgrow' _; obtain ⟨g', cap', rfl⟩ := ownsRow_succ hown'; obtain ⟨hv1, hv2, hr2, hk2, hb2⟩ := hv.appended (by decide) hrow hB.size (Nat.le_refl _) hown' hgrow'; have hc1 := hv1.cell; have hf1 := hv1.frozen)
    exact ⟨rfl, hk2, ⟨_, hv2, by rw [eV_snoc, List.length_append]; exact hr2, trivial⟩, hB.trans hb2⟩
  case done =>
    rintro D W ss hD hmem hnd hlen ⟨⟨v, hv, hrow, -⟩, hB⟩ hK
    have hcl := hv.cell
    gi_wp2
    refine ⟨by simp, .inl ⟨_, _, rfl, run_takeDeferred hK, ?_⟩⟩
    exact ⟨_, results_tmp rfl _ _ _, v, ss, rfl, hmem, hnd, hlen, ownsRow_putObj hrow _ hK rfl, hB.trans (belowK_b (w := w) (Nat.le_refl _) W D _ _ (by simp at hD; omega) hK rfl rfl)⟩
theorem iColl (w : World) (p b nn : Nat) (D0 : DataW Unit) (hnn : nn ≤ 16777216) (hp : Boxed w p 51 (.map (some b))) (hown : w.ownsMap Try.prog 50 RB b nn D0) :
    Calls Try.prog 33 #[.func (.func 35) #[] #[.pointer (some ⟨p, 0, none⟩)]] w fun e w' => ∃ (v : Value) (ss : List Nat), e = .returned v ∧ (∀ x : Nat, x ∈ ss ↔ has D0 (kL x) = true) ∧ ss.Nodup ∧ ss.length ≤ nn ∧ w'.ownsRow w.heap.size 50 1 v ss.length (ss.map eV) ∧ Below w.heap.size w w' := by
  have C := Lib.hid (iApp w p b nn D0 hnn hp hown)
  clear hp hown
  go_enter Try.func33, Try.ntmps33
  go_wp2_with (go_at_call 38; refine C.out.mono ?_; rintro e w1 ⟨v, ss, rfl, h1, h2, h3, h4, h5⟩)
  go_ret
  exact ⟨_, _, rfl, h1, h2, h3, h4, h5⟩
end Go.Proofs.Ytiponiflebmooaa

namespace Go.Proofs.Ytiponiflebmooaa
open Go.RowKit Go.Shelf Go.Maps
set_option maxRecDepth 1000000
/-- A row of the call's own, as the sort's walks hold it; and back. -/
theorem row_sr {w : World} {base : Nat} {v : Value} {ss : List Nat} (h : w.ownsRow base 50 1 v ss.length (ss.map eV)) (hne : 0 < ss.length) :
    ∃ (g cap : Nat) (tl : List Value), v = .slice (some ⟨g, 0, none⟩) ss.length cap ∧ base ≤ g ∧ SR w g [] tl ss.toArray ∧
      ∀ (w' : World) (d : Array Nat), d.size = ss.length → SR w' g [] tl d → w'.ownsRow base 50 1 v ss.length (d.toList.map eV) := by
  obtain ⟨h0, h1⟩ := h
  rcases h1 with ⟨_, h2⟩ | ⟨g, cap, cur, hv, hb, hg, hnc, hcm, hcs, htk⟩
  · omega
  · rw [Nat.mul_one] at htk hcs
    refine ⟨g, cap, cur.toList.drop ss.length, hv, hb, ?_, fun w' d hd hs => ⟨by rw [Nat.mul_one, List.length_map, Array.length_toList, hd], .inr ⟨g, cap, _, hv, hb, hs, hnc, hcm, ?_, ?_⟩⟩⟩
    · show w.heap[g]? = _
      rw [hg]
      congr 2
      apply Array.ext'
      rw [List.nil_append, ← htk]
      simp
    · have := congrArg List.length htk
      rw [List.length_take, List.length_map, Array.length_toList] at this
      simp only [List.nil_append, List.size_toArray, List.length_append, List.length_map, Array.length_toList, List.length_drop, hd]
      omega
    · rw [Nat.mul_one]
      simp only [List.nil_append]
      rw [List.take_left' (by rw [List.length_map, Array.length_toList, hd])]
/-- What collects and sorts the keys gives. -/
def SortedKeys (w w' : World) (D0 : DataW Unit) (nn : Nat) (v : Value) (L : List Nat) : Prop :=
  (∀ x : Nat, x ∈ L ↔ has D0 (kL x) = true) ∧ L.Pairwise (· < ·) ∧ L.length ≤ nn ∧ (∃ g cap, v = .slice (some ⟨g, 0, none⟩) L.length cap ∧ w.heap.size ≤ g) ∧ w'.ownsRow w.heap.size 50 1 v L.length (L.map eV) ∧ Below w.heap.size w w'
theorem below_row {B g : Nat} {a b c : World} (h : Below B a b) (hg : b.grownBy c (some g)) (hB : B ≤ g) (hs : B ≤ b.heap.size) : Below B a c :=
  h.trans ((Below.refl B b).grown hg hs (fun q hq => by cases hq; exact hB))
set_option maxHeartbeats 2000000 in
theorem iSorted (w : World) (p b nn : Nat) (D0 : DataW Unit) (hnn : nn ≤ 16777216) (hp : Boxed w p 51 (.map (some b))) (hown : w.ownsMap Try.prog 50 RB b nn D0) (hone : ∃ x : Nat, has D0 (kL x) = true) :
    Calls Try.prog 29 #[.func (.func 35) #[] #[.pointer (some ⟨p, 0, none⟩)]] w fun e w' => ∃ (v : Value) (L : List Nat), e = .returned v ∧ SortedKeys w w' D0 nn v L := by
  have C := Lib.hid (iColl w p b nn D0 hnn hp hown)
  have HONE := Lib.hid hone
  clear hp hown hone
  go_enter Try.func29, Try.ntmps29
  go_wp2_with (go_at_call 33; refine C.out.mono ?_; rintro e w1 ⟨v, ss, rfl, h1, h2, h3, h4, h5⟩)
  have hlen : 0 < ss.length := by
    obtain ⟨x, hx⟩ := HONE.out
    exact List.length_pos_of_mem ((h1 x).2 hx)
  obtain ⟨g, cap, tl, rfl, hb, hs, hback⟩ := row_sr h4 hlen
  have HS := Lib.hid (srtSort w1 g 0 [] tl ss.toArray ss.length cap rfl (by simp) (by omega) hs)
  have H1 := Lib.hid h1
  have H2 := Lib.hid h2
  have H5 := Lib.hid h5
  have HB := Lib.hid hback
  have HG := Lib.hid hb
  have H3 := Lib.hid h3
  clear h1 h2 h3 h4 h5 hback hs hb hlen
  go_wp2_with (go_at_call 34; refine HS.out.mono ?_; rintro e w2 ⟨rfl, d, hd, hpm, hpw, hg2⟩)
  go_ret
  have hpm2 : d.toList.Perm ss := by simpa using hpm
  have hsz : d.size = ss.length := by rw [← Array.length_toList]; exact hpm2.length_eq
  have hlenL : d.toList.length = ss.length := hpm2.length_eq
  refine ⟨.slice (some ⟨g, 0, none⟩) ss.length cap, d.toList, rfl, fun x => hpm2.mem_iff.trans (H1.out x), ?_, by rw [hlenL]; exact H3.out, ⟨g, cap, by rw [hlenL], HG.out⟩, by rw [hlenL]; exact HB.out w2 d hsz hd, below_row H5.out hg2 HG.out H5.out.size⟩
  have hnd : d.toList.Nodup := hpm2.nodup_iff.2 H2.out
  exact (hpw.and hnd).imp fun ⟨h1, h2⟩ => Nat.lt_of_le_of_ne h1 h2
/-- maps.Keys: the map in a box of its own, the function over it. -/
theorem iKeys (w : World) (mv : Value) (hmv : ∃ b, mv = .map (some b)) :
    Calls Try.prog 30 #[mv] w fun e w' => e = .returned (.func (.func 35) #[] #[.pointer (some ⟨w.heap.size, 0, none⟩)]) ∧ w' = w.alloc (.cells #[mv] 51) := by
  obtain ⟨b, rfl⟩ := hmv
  go_enter Try.func30, Try.ntmps30
  go_wp2
  go_ret
  exact ⟨rfl, rfl⟩
end Go.Proofs.Ytiponiflebmooaa

namespace Go.Proofs.Ytiponiflebmooaa
open Go.RowKit Go.Shelf Go.Maps
set_option maxRecDepth 1000000
theorem nodup_bound : ∀ (N : Nat) (L : List Nat), L.Nodup → (∀ x ∈ L, x < N) → L.length ≤ N
  | 0, L, _, h => by
    cases L with
    | nil => exact Nat.le_refl _
    | cons a r => exact absurd (h a (by simp)) (by omega)
  | N + 1, L, hn, h => by
    by_cases hm : N ∈ L
    · have h1 := nodup_bound N (L.erase N) (hn.erase N) (fun x hx => by
        have h2 := (List.Nodup.mem_erase_iff hn).1 hx
        have := h x h2.2
        omega)
      rw [List.length_erase_of_mem hm] at h1
      omega
    · have h1 := nodup_bound N L hn (fun x hx => by
        have h2 := h x hx
        have : x ≠ N := fun e => hm (e ▸ hx)
        omega)
      omega
def litN : Lit → Nat
  | .int _ z => z.toNat
  | _ => 0
theorem litN_kL (x : Nat) : litN (kL x) = x := by simp [litN, kL]
theorem tight {w : World} {b n : Nat} {D : DataW Unit} (h : w.ownsMap Try.prog 50 RB b n D) (hs : ∀ x : Nat, has D (kL x) = true → x < 16777216) : w.ownsMap Try.prog 50 RB b 16777216 D := by
  have hk := fun (kl : Lit) (hkl : has D kl = true) => ownsMap_keys h hkl
  obtain ⟨es', hD, hne, hkl⟩ := h.entries keyedK
  have hin : ∀ p ∈ es', ∃ x : Nat, p.1 = kL x ∧ x < 16777216 := fun p hp => by
    have h1 : has D p.1 = true := by
      rw [hD, has_eq, List.any_eq_true]
      exact ⟨p, hp, WideAt.sameKey_self (hkl p hp)⟩
    obtain ⟨x, hx⟩ := hk _ h1
    exact ⟨x, hx, hs x (by rw [← hx]; exact h1)⟩
  have hlen : es'.length ≤ 16777216 := by
    have h1 := nodup_bound 16777216 (es'.map fun p => litN p.1) (by
      refine List.pairwise_map.2 (hne.imp_of_mem fun {p q} hp hq hpq e => hpq ?_)
      obtain ⟨x, hx, _⟩ := hin p hp
      obtain ⟨y, hy, _⟩ := hin q hq
      rw [hx, hy, litN_kL, litN_kL] at e
      rw [hx, hy, e]) (fun x hx => by
      obtain ⟨p, hp, rfl⟩ := List.mem_map.1 hx
      obtain ⟨y, hy, hlt⟩ := hin p hp
      rw [hy, litN_kL]; exact hlt)
    rwa [List.length_map] at h1
  obtain ⟨es, clock, hb, F, hsz, hD2⟩ := h
  refine ⟨es, clock, hb, F, ?_, hD2⟩
  rw [hD2] at hD
  injection hD with hD
  have h2 := length_sorted (es.toList.map (Go.WideElems.rg Try.prog 50 RB))
  rw [hD, List.length_map] at h2
  have h3 : es.size = es.toList.length := (Array.length_toList).symm
  rw [h3, ← h2]; exact hlen
/-- Block b is a map whose keys are the sets of S. -/
def KS (w : World) (b : Nat) (S : Nat → Prop) : Prop := ∃ D : DataW Unit, w.ownsMap Try.prog 50 RB b 16777216 D ∧ (∀ x : Nat, has D (kL x) = true ↔ S x) ∧ ∀ x, S x → x < 16777216
theorem KS.lt {w : World} {b : Nat} {S : Nat → Prop} (h : KS w b S) : b < w.heap.size := by
  obtain ⟨D, h1, _⟩ := h
  exact h1.lt
theorem KS.kept {w w' : World} {b : Nat} {S : Nat → Prop} {row : Option Nat} (h : KS w b S) (hg : w.grownBy w' row) (hne : some b ≠ row) : KS w' b S := by
  obtain ⟨D, h1, h2⟩ := h
  exact ⟨D, h1.kept hg hne, h2⟩
theorem KS.below {w w' : World} {b B : Nat} {S : Nat → Prop} (h : KS w b S) (hg : Below B w w') (hb : b < B) : KS w' b S := by
  obtain ⟨D, ⟨es, clock, hh, F, hs, hD⟩, h2⟩ := h
  exact ⟨D, ⟨es, clock, (hg.block b hb).trans hh, F, hs, hD⟩, h2⟩
theorem KS.congr {w : World} {b : Nat} {S T : Nat → Prop} (h : KS w b S) (e : ∀ x, S x ↔ T x) : KS w b T := by
  obtain ⟨D, h1, h2, h3⟩ := h
  exact ⟨D, h1, fun x => (h2 x).trans (e x), fun x hx => h3 x ((e x).2 hx)⟩
theorem KS.made (w : World) : KS (w.alloc (.map #[] 0)) w.heap.size (fun _ => False) :=
  ⟨.map [], (World.ownsMap_made w _ _ _).mono (Nat.zero_le _), fun x => ⟨fun h => (by simp [has_eq] at h), fun h => h.elim⟩, fun x h => h.elim⟩
theorem keyLit (x : Nat) : WideAt.IsKeyLit (kL x) := trivial
theorem key_of {x : Nat} (hx : x < 18446744073709551616) : keyOf Try.prog 50 (.int .u64 ((x : Nat) : Int)) = some (kL x) := by
  have e1 : IntKind.u64.min = 0 := rfl
  have e2 : IntKind.u64.max = 18446744073709551615 := rfl
  exact Maps.keyOf_int_mk Try.underlying50 (by simp only [Lit.wf, e1, e2, Bool.and_eq_true, decide_eq_true_eq]; omega)
theorem KS.store {w : World} {b : Nat} {S : Nat → Prop} (h : KS w b S) {x : Nat} (hx : x < 16777216) (c : Bool) :
    ∃ w', (Instr.mapUpdate 51 (.map (some b)) (.int .u64 ((x : Nat) : Int)) (.bool c)).run Try.prog w = .ok () w' ∧ KS w' b (fun y => S y ∨ y = x) ∧ w.grownBy w' (some b) := by
  obtain ⟨D, h1, h2, h3⟩ := h
  obtain ⟨w', hrun, ho, hg⟩ := h1.update keyedK Try.underlying51 (by unfold maxLen; omega) (key_of (x := x) (by omega)) (plainElem_bool Try.underlying4 c)
  have hD : ∀ y : Nat, has (D.put (kL x) (.lit (.bool c))) (kL y) = true ↔ S y ∨ y = x := fun y => by
    by_cases e : y = x
    · subst e
      simp [has_put_same h1.isMap (keyLit y)]
    · have e2 : kL y ≠ kL x := fun h => e (by rw [← litN_kL y, h, litN_kL])
      rw [has_put_other e2, h2 y]
      simp [e]
  have hlt : ∀ y, S y ∨ y = x → y < 16777216 := fun y hy => by
    rcases hy with hy | rfl
    · exact h3 y hy
    · exact hx
  exact ⟨w', hrun, ⟨_, tight ho (fun y hy => hlt y ((hD y).1 hy)), hD, hlt⟩, hg⟩
theorem KS.clear {w : World} {b : Nat} {S : Nat → Prop} (h : KS w b S) (ty : TypeId) :
    ∃ w', (Builtin.clear_ #[51] ty #[.map (some b)]).run Try.prog w = .ok (.tuple #[]) w' ∧ KS w' b (fun _ => False) ∧ w.grownBy w' (some b) := by
  obtain ⟨D, ⟨es, clock, hb, F, hs, hD⟩, h2⟩ := h
  refine ⟨Go.ChangeMaps.setBlock w b (.map #[] clock), ?_, ⟨.map [], ⟨#[], clock, Go.ChangeMaps.heap_setBlock_same hb _, ⟨by simp, Go.MapKept.stamped_empty clock, by simp⟩, by simp, rfl⟩, fun x => ⟨fun h => (by simp [has_eq] at h), fun h => h.elim⟩, fun x h => h.elim⟩, ⟨rfl, rfl, rfl, by simp [Go.ChangeMaps.setBlock], fun i _ hi => Go.ChangeMaps.heap_setBlock_other hb _ (fun e => hi (by rw [e]))⟩⟩
  simp [Builtin.clear_, run_underlying Try.underlying51, Go.MapKept.run_getObj_map hb, Go.MapKept.run_setObj_map _ hb, Result.andThen, Go.ChangeMaps.setBlock]
end Go.Proofs.Ytiponiflebmooaa

namespace Go.Proofs.Ytiponiflebmooaa
open Go.RowKit Go.Shelf Go.Maps
set_option maxRecDepth 1000000
theorem bool_elem {c : Value} {y : DataW Unit × List MemPlace} (h : RB c = some y) : ∃ b, c = .bool b := by
  obtain ⟨b, h1, _⟩ := plainElem_bool_inv h
  exact ⟨b, h1⟩
set_option maxHeartbeats 2000000 in
theorem iCopy (w : World) (bd bs : Nat) (Sd Ss : Nat → Prop) (hd : KS w bd Sd) (hs : KS w bs Ss) (hne : bd ≠ bs) :
    Calls Try.prog 28 #[.map (some bd), .map (some bs)] w fun e w' => e = .returned (.tuple #[]) ∧ KS w' bd (fun y => Sd y ∨ Ss y) ∧ KS w' bs Ss ∧ w.grownBy w' (some bd) := by
  obtain ⟨D, hown, hDS, hlt⟩ := hs
  have HDS := Lib.hid hDS
  have HLT := Lib.hid hlt
  have HD := Lib.hid hd
  have hbd := hd.lt
  have hbs := hown.lt
  have HOW := Lib.hid hown
  clear hd hDS hlt
  go_enter Try.func28, Try.ntmps28
  go_wp2_with (first
    | (at_range; refine wpList_range_own _ rfl _ 51 rfl 50 4 keyedK Try.underlying51 RB bs 16777216 _ rfl hown ?_; intro w0 hrg0 hg0 hs0)
    | go_in)
  clear hown
  have HK0 : Hid (KS w0 bd Sd) := Lib.hid (HD.out.kept hg0 (by simp))
  have HG0 : Hid (w.grownBy w0 (some bd)) := Lib.hid (hg0.but _)
  clear hg0
  go_frame
  go_loopw [4, 5] (fun _ _ wr => ∃ (left : Lit → Bool) (cnt : Nat) (ss : List Nat), wr.ranges Try.prog 50 RB bs w.heap.size 16777216 D left cnt ∧ Met D left ss ∧ KS wr bd (fun y => Sd y ∨ y ∈ ss) ∧ w.grownBy wr (some bd)) (fun _ _ wr => wr.rangeLeft bs w.heap.size)
  case atStart =>
    exact ⟨_, _, [], hrg0, Met.start D, HK0.out.congr (fun x => by simp), HG0.out⟩
  case round =>
    obtain ⟨left, cnt, ss, hrg, hM, hks, hgr⟩ := hrel
    have HM := Lib.hid hM
    have HKS := Lib.hid hks
    have HGR := Lib.hid hgr
    have HRG := Lib.hid hrg
    clear hM hks hgr
    go_wp2_with (first
      | (at_next; refine wpList_next_ranges _ rfl _ rfl 50 keyedK RB (fun x : Nat => Value.int .u64 ((x : Nat) : Int)) id (fun key kl hk => by obtain ⟨x, hx, _⟩ := key_inv hk; exact ⟨x, hx⟩) (fun v _ _ => ⟨v, rfl⟩) bs w.heap.size 16777216 _ _ _ rfl hrg ?_ ?_)
      | go_in)
    · intro hc0 hl0
      go_wp2
      go_end0
      refine ⟨rfl, HKS.out.congr (fun x => ?_), ⟨D, HRG.out.owns, HDS.out, HLT.out⟩, HGR.out⟩
      have h1 : x ∈ ss ↔ Ss x := by
        rw [HM.out.mem, hl0]
        simp [HDS.out x]
      rw [h1]
    · intro x c kl yd yp w2 cnt2 hkey hlk hv hat hrg2 hlt hg2 hs2 hen
      obtain ⟨x', ex, rfl, hx64⟩ := key_inv hkey
      obtain rfl : x = x' := by
        injection ex with _ e
        omega
      obtain ⟨cb, rfl⟩ := bool_elem hv
      have hx24 : x < 16777216 := HLT.out x ((HDS.out x).1 (HM.out.sub x hlk))
      have hk2 : KS w2 bd (fun y => Sd y ∨ y ∈ ss) := HKS.out.kept hg2 (by simp; omega)
      have hgw2 : w.grownBy w2 (some bd) := HGR.out.andThen hg2 (fun j e => by cases e; exact .inl (Nat.le_refl _))
      obtain ⟨w3, hrun, hks3, hg3⟩ := hk2.store hx24 cb
      have hrg3 := hrg2.kept hg3 (by simp; omega) (by simp; omega)
      have HRG3 := Lib.hid hrg3
      have HKS3 := Lib.hid hks3
      have HGW3 : Hid (w.grownBy w3 (some bd)) := Lib.hid (hgw2.andThen hg3 (fun j e => .inr e))
      have HLK := Lib.hid hlk
      have HLT2 := Lib.hid hlt
      clear hs2 hk2 hgw2 hg3 hks3 hrg3 hrg2 hg2 hlk hlt hkey hv hat hrg
      go_wp2
      go_roundw
      case rel => exact ⟨_, cnt2, ss ++ [x], HRG3.out, HM.out.step HLK.out, HKS3.out.congr (fun y => by simp [or_assoc]), HGW3.out⟩
      case measure =>
        rw [HRG3.out.left_eq, HRG.out.left_eq]; exact HLT2.out
end Go.Proofs.Ytiponiflebmooaa
