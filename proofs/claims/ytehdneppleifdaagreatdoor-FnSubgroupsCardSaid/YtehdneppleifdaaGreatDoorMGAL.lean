/- Merged: KeysC KeysS KMap KCopy SetMem GrpAx. -/
import Derived.Test.YtehdneppleifdaaGreatDoorMGAH
import Derived.Test.YtehdneppleifdaaGreatDoorSrt12
import Derived.Maps.Own
import Derived.Maps.Views
import Derived.MapFrom
import Derived.Carry
import Derived.Test.YtehdneppleifdaaGreatDoorMGAE
import Derived.Test.YtehdneppleifdaaGreatDoorGrpMath2
namespace Go.Proofs.YtehdneppleifdaaGreatDoor
open Go.RowKit Go.Shelf Go.Maps
attribute [local go_sem] Oper.semAt_some
set_option maxRecDepth 1000000
theorem elemInfo : (Tryz.prog.info? 43).map (fun i => (i.zero, i.size, i.bytes)) = some (some (.int .u64 0), 1, 8) := by kernel_rfl
theorem eV_snoc (L : List Nat) (x : Nat) : (L ++ [x]).map eV = L.map eV ++ [.int .u64 ((x : Nat) : Int)] := by simp [eV]
set_option maxHeartbeats 2000000 in
theorem iApp (w : World) (p b nn : Nat) (D0 : DataW Unit) (hnn : nn ≤ 16777216) (hp : Boxed w p 72 (.map (some b))) (hown : w.ownsMap Tryz.prog 43 RB b nn D0) :
    Calls Tryz.prog 83 #[.slice none 0 0, .func (.func 79) #[] #[.pointer (some ⟨p, 0, none⟩)]] w fun e w' => ∃ (v : Value) (ss : List Nat), e = .returned v ∧ (∀ x : Nat, x ∈ ss ↔ has D0 (kL x) = true) ∧ ss.Nodup ∧ ss.length ≤ nn ∧ w'.ownsRow w.heap.size 43 1 v ss.length (ss.map eV) ∧ Below w.heap.size w w' := by
  obtain ⟨i0, hi, hz0, hz1, hz2⟩ := info_parts elemInfo
  refine (callsIn_wide (n := 4)).1 ?_
  refine callsIn_of_wp_marks Tryz.func83 rfl trivial ?_ rfl
  simp only [Tryz.ntmps83, List.size_toArray, List.length_cons, List.length_nil, Nat.reduceAdd, Nat.reduceSub, Array.replicate_succ, Array.replicate_zero, List.push_toArray, List.append_toArray, List.nil_append, List.cons_append]
  gi_wp2
  have bO := Boxed.new w 53 (.slice none 0 0)
  have hB2 : Below w.heap.size w (w.alloc (.cells #[.slice none 0 0] 53)) := (Below.refl w.heap.size w).alloc (Nat.le_refl _) _
  refine keys_loop p b nn D0 (hp.alloc _) (hown.alloc _) rfl
    (fun pre W => (∃ v, Boxed W w.heap.size 53 v ∧ W.ownsRow w.heap.size 43 1 v pre.length (pre.map eV) ∧ True) ∧ Below w.heap.size w W)
    (OwnFrom.and (Own.from (holdsRow_own w.heap.size w.heap.size 53 43 1 (fun (pre : List Nat) => pre.length) (fun pre => pre.map eV) (fun _ _ => True)) _) (ownFrom_below (Nat.le_refl _) (by simp)))
    ⟨⟨_, bO, World.ownsRow_nil _ _ _ _, trivial⟩, hB2⟩
    (fun x => { tmps := #[.slice none 0 0, .func (.func 79) #[] #[.pointer (some ⟨p, 0, none⟩)], .pointer (some ⟨w.heap.size, 0, none⟩), undef, .slice none 0 0, .int .u64 ((x : Nat) : Int),
      .func (.func 79) #[] #[.pointer (some ⟨p, 0, none⟩)], .int .u64 ((x : Nat) : Int), undef, undef, undef, undef, undef], defers := [] }) ?assign ?body ?done
  case assign =>
    intro l x W K hK
    gi_wp2
    exact hK
  case body =>
    rintro l pre x W hpl ⟨⟨v, hv, hrow, -⟩, hB⟩
    have hcl := hv.cell
    gi_wp2_with (gi_at_builtin; refine wpListIn_append_own _ rfl _ _ 53 rfl w.heap.size 43 i0 (.int .u64 0) 1 8 Tryz.underlying53 hi hz0 hz1 hz2 rfl (by decide) _ _ _ rfl (hrow.alloc _) ⟨W.heap.size, 0, none⟩ 1 1 [.int .u64 ((x : Nat) : Int)] rfl rfl (cell_one_new _ _ _) (by simp [Value.oneCell']) (by unfold maxLen; omega) (by omega) (by have := hB.size; simp; omega) ?_; intro v' w3 hown' hgrow' _; obtain ⟨g', cap', rfl⟩ := ownsRow_succ hown'; obtain ⟨hv1, hv2, hr2, hk2, hb2⟩ := hv.appended (by decide) hrow hB.size (Nat.le_refl _) hown' hgrow'; have hc1 := hv1.cell; have hf1 := hv1.frozen)
    exact ⟨rfl, hk2, ⟨_, hv2, by rw [eV_snoc, List.length_append]; exact hr2, trivial⟩, hB.trans hb2⟩
  case done =>
    rintro D W ss hD hmem hnd hlen ⟨⟨v, hv, hrow, -⟩, hB⟩ hK
    have hcl := hv.cell
    gi_wp2
    refine ⟨by simp, .inl ⟨_, _, rfl, run_takeDeferred hK, ?_⟩⟩
    exact ⟨_, results_tmp rfl _ _ _, v, ss, rfl, hmem, hnd, hlen, ownsRow_putObj hrow _ hK rfl, hB.trans (belowK_b (w := w) (Nat.le_refl _) W D _ _ (by simp at hD; omega) hK rfl rfl)⟩
theorem iColl (w : World) (p b nn : Nat) (D0 : DataW Unit) (hnn : nn ≤ 16777216) (hp : Boxed w p 72 (.map (some b))) (hown : w.ownsMap Tryz.prog 43 RB b nn D0) :
    Calls Tryz.prog 77 #[.func (.func 79) #[] #[.pointer (some ⟨p, 0, none⟩)]] w fun e w' => ∃ (v : Value) (ss : List Nat), e = .returned v ∧ (∀ x : Nat, x ∈ ss ↔ has D0 (kL x) = true) ∧ ss.Nodup ∧ ss.length ≤ nn ∧ w'.ownsRow w.heap.size 43 1 v ss.length (ss.map eV) ∧ Below w.heap.size w w' := by
  have C := Lib.hid (iApp w p b nn D0 hnn hp hown)
  clear hp hown
  go_enter Tryz.func77, Tryz.ntmps77
  go_wp2_with (go_at_call 83; refine C.out.mono ?_; rintro e w1 ⟨v, ss, rfl, h1, h2, h3, h4, h5⟩)
  go_ret
  exact ⟨_, _, rfl, h1, h2, h3, h4, h5⟩
end Go.Proofs.YtehdneppleifdaaGreatDoor

namespace Go.Proofs.YtehdneppleifdaaGreatDoor
open Go.RowKit Go.Shelf Go.Maps
set_option maxRecDepth 1000000
/-- A row of the call's own, as the sort's walks hold it; and back. -/
theorem row_sr {w : World} {base : Nat} {v : Value} {ss : List Nat} (h : w.ownsRow base 43 1 v ss.length (ss.map eV)) (hne : 0 < ss.length) :
    ∃ (g cap : Nat) (tl : List Value), v = .slice (some ⟨g, 0, none⟩) ss.length cap ∧ base ≤ g ∧ SR w g [] tl ss.toArray ∧
      ∀ (w' : World) (d : Array Nat), d.size = ss.length → SR w' g [] tl d → w'.ownsRow base 43 1 v ss.length (d.toList.map eV) := by
  obtain ⟨h0, h1⟩ := h
  rcases h1 with ⟨_, h2⟩ | ⟨g, cap, cur, hv, hb, hg, hnc, hcm, hcs, htk⟩
  · omega
  · rw [Nat.mul_one] at htk hcs
    refine ⟨g, cap, cur.toList.drop ss.length, hv, hb, ?_, fun w' d hd hs => ⟨by rw [Nat.mul_one, List.length_map, Array.length_toList, hd], .inr ⟨g, cap, _, hv, hb, hs, hnc, hcm, ?_, ?_⟩⟩⟩
    · show w.heap[g]? = _
      rw [hg]
      congr 2
      apply Array.ext'
      rw [List.nil_append, ← htk]
      simp
    · have := congrArg List.length htk
      rw [List.length_take, List.length_map, Array.length_toList] at this
      simp only [List.nil_append, List.size_toArray, List.length_append, List.length_map, Array.length_toList, List.length_drop, hd]
      omega
    · rw [Nat.mul_one]
      simp only [List.nil_append]
      rw [List.take_left' (by rw [List.length_map, Array.length_toList, hd])]
/-- What collects and sorts the keys gives. -/
def SortedKeys (w w' : World) (D0 : DataW Unit) (nn : Nat) (v : Value) (L : List Nat) : Prop :=
  (∀ x : Nat, x ∈ L ↔ has D0 (kL x) = true) ∧ L.Pairwise (· < ·) ∧ L.length ≤ nn ∧ (∃ g cap, v = .slice (some ⟨g, 0, none⟩) L.length cap ∧ w.heap.size ≤ g) ∧ w'.ownsRow w.heap.size 43 1 v L.length (L.map eV) ∧ Below w.heap.size w w'
theorem below_row {B g : Nat} {a b c : World} (h : Below B a b) (hg : b.grownBy c (some g)) (hB : B ≤ g) (hs : B ≤ b.heap.size) : Below B a c :=
  h.trans ((Below.refl B b).grown hg hs (fun q hq => by cases hq; exact hB))
set_option maxHeartbeats 2000000 in
theorem iSorted (w : World) (p b nn : Nat) (D0 : DataW Unit) (hnn : nn ≤ 16777216) (hp : Boxed w p 72 (.map (some b))) (hown : w.ownsMap Tryz.prog 43 RB b nn D0) (hone : ∃ x : Nat, has D0 (kL x) = true) :
    Calls Tryz.prog 67 #[.func (.func 79) #[] #[.pointer (some ⟨p, 0, none⟩)]] w fun e w' => ∃ (v : Value) (L : List Nat), e = .returned v ∧ SortedKeys w w' D0 nn v L := by
  have C := Lib.hid (iColl w p b nn D0 hnn hp hown)
  have HONE := Lib.hid hone
  clear hp hown hone
  go_enter Tryz.func67, Tryz.ntmps67
  go_wp2_with (go_at_call 77; refine C.out.mono ?_; rintro e w1 ⟨v, ss, rfl, h1, h2, h3, h4, h5⟩)
  have hlen : 0 < ss.length := by
    obtain ⟨x, hx⟩ := HONE.out
    exact List.length_pos_of_mem ((h1 x).2 hx)
  obtain ⟨g, cap, tl, rfl, hb, hs, hback⟩ := row_sr h4 hlen
  have HS := Lib.hid (srtSort w1 g 0 [] tl ss.toArray ss.length cap rfl (by simp) (by omega) hs)
  have H1 := Lib.hid h1
  have H2 := Lib.hid h2
  have H5 := Lib.hid h5
  have HB := Lib.hid hback
  have HG := Lib.hid hb
  have H3 := Lib.hid h3
  clear h1 h2 h3 h4 h5 hback hs hb hlen
  go_wp2_with (go_at_call 78; refine HS.out.mono ?_; rintro e w2 ⟨rfl, d, hd, hpm, hpw, hg2⟩)
  go_ret
  have hpm2 : d.toList.Perm ss := by simpa using hpm
  have hsz : d.size = ss.length := by rw [← Array.length_toList]; exact hpm2.length_eq
  have hlenL : d.toList.length = ss.length := hpm2.length_eq
  refine ⟨.slice (some ⟨g, 0, none⟩) ss.length cap, d.toList, rfl, fun x => hpm2.mem_iff.trans (H1.out x), ?_, by rw [hlenL]; exact H3.out, ⟨g, cap, by rw [hlenL], HG.out⟩, by rw [hlenL]; exact HB.out w2 d hsz hd, below_row H5.out hg2 HG.out H5.out.size⟩
  have hnd : d.toList.Nodup := hpm2.nodup_iff.2 H2.out
  exact (hpw.and hnd).imp fun ⟨h1, h2⟩ => Nat.lt_of_le_of_ne h1 h2
/-- maps.Keys: the map in a box of its own, the function over it. -/
theorem iKeys (w : World) (mv : Value) (hmv : ∃ b, mv = .map (some b)) :
    Calls Tryz.prog 68 #[mv] w fun e w' => e = .returned (.func (.func 79) #[] #[.pointer (some ⟨w.heap.size, 0, none⟩)]) ∧ w' = w.alloc (.cells #[mv] 72) := by
  obtain ⟨b, rfl⟩ := hmv
  go_enter Tryz.func68, Tryz.ntmps68
  go_wp2
  go_ret
  exact ⟨rfl, rfl⟩
end Go.Proofs.YtehdneppleifdaaGreatDoor

namespace Go.Proofs.YtehdneppleifdaaGreatDoor
open Go.RowKit Go.Shelf Go.Maps
set_option maxRecDepth 1000000
theorem nodup_bound : ∀ (N : Nat) (L : List Nat), L.Nodup → (∀ x ∈ L, x < N) → L.length ≤ N
  | 0, L, _, h => by
    cases L with
    | nil => exact Nat.le_refl _
    | cons a r => exact absurd (h a (by simp)) (by omega)
  | N + 1, L, hn, h => by
    by_cases hm : N ∈ L
    · have h1 := nodup_bound N (L.erase N) (hn.erase N) (fun x hx => by
        have h2 := (List.Nodup.mem_erase_iff hn).1 hx
        have := h x h2.2
        omega)
      rw [List.length_erase_of_mem hm] at h1
      omega
    · have h1 := nodup_bound N L hn (fun x hx => by
        have h2 := h x hx
        have : x ≠ N := fun e => hm (e ▸ hx)
        omega)
      omega
def litN : Lit → Nat
  | .int _ z => z.toNat
  | _ => 0
theorem litN_kL (x : Nat) : litN (kL x) = x := by simp [litN, kL]
theorem tight {w : World} {b n : Nat} {D : DataW Unit} (h : w.ownsMap Tryz.prog 43 RB b n D) (hs : ∀ x : Nat, has D (kL x) = true → x < 16777216) : w.ownsMap Tryz.prog 43 RB b 16777216 D := by
  have hk := fun (kl : Lit) (hkl : has D kl = true) => ownsMap_keys h hkl
  obtain ⟨es', hD, hne, hkl⟩ := h.entries keyedK
  have hin : ∀ p ∈ es', ∃ x : Nat, p.1 = kL x ∧ x < 16777216 := fun p hp => by
    have h1 : has D p.1 = true := by
      rw [hD, has_eq, List.any_eq_true]
      exact ⟨p, hp, WideAt.sameKey_self (hkl p hp)⟩
    obtain ⟨x, hx⟩ := hk _ h1
    exact ⟨x, hx, hs x (by rw [← hx]; exact h1)⟩
  have hlen : es'.length ≤ 16777216 := by
    have h1 := nodup_bound 16777216 (es'.map fun p => litN p.1) (by
      refine List.pairwise_map.2 (hne.imp_of_mem fun {p q} hp hq hpq e => hpq ?_)
      obtain ⟨x, hx, _⟩ := hin p hp
      obtain ⟨y, hy, _⟩ := hin q hq
      rw [hx, hy, litN_kL, litN_kL] at e
      rw [hx, hy, e]) (fun x hx => by
      obtain ⟨p, hp, rfl⟩ := List.mem_map.1 hx
      obtain ⟨y, hy, hlt⟩ := hin p hp
      rw [hy, litN_kL]; exact hlt)
    rwa [List.length_map] at h1
  obtain ⟨es, clock, hb, F, hsz, hD2⟩ := h
  refine ⟨es, clock, hb, F, ?_, hD2⟩
  rw [hD2] at hD
  injection hD with hD
  have h2 := length_sorted (es.toList.map (Go.WideElems.rg Tryz.prog 43 RB))
  rw [hD, List.length_map] at h2
  have h3 : es.size = es.toList.length := (Array.length_toList).symm
  rw [h3, ← h2]; exact hlen
/-- Block b is a map whose keys are the sets of S. -/
def KS (w : World) (b : Nat) (S : Nat → Prop) : Prop := ∃ D : DataW Unit, w.ownsMap Tryz.prog 43 RB b 16777216 D ∧ (∀ x : Nat, has D (kL x) = true ↔ S x) ∧ ∀ x, S x → x < 16777216
theorem KS.lt {w : World} {b : Nat} {S : Nat → Prop} (h : KS w b S) : b < w.heap.size := by
  obtain ⟨D, h1, _⟩ := h
  exact h1.lt
theorem KS.kept {w w' : World} {b : Nat} {S : Nat → Prop} {row : Option Nat} (h : KS w b S) (hg : w.grownBy w' row) (hne : some b ≠ row) : KS w' b S := by
  obtain ⟨D, h1, h2⟩ := h
  exact ⟨D, h1.kept hg hne, h2⟩
theorem KS.below {w w' : World} {b B : Nat} {S : Nat → Prop} (h : KS w b S) (hg : Below B w w') (hb : b < B) : KS w' b S := by
  obtain ⟨D, ⟨es, clock, hh, F, hs, hD⟩, h2⟩ := h
  exact ⟨D, ⟨es, clock, (hg.block b hb).trans hh, F, hs, hD⟩, h2⟩
theorem KS.congr {w : World} {b : Nat} {S T : Nat → Prop} (h : KS w b S) (e : ∀ x, S x ↔ T x) : KS w b T := by
  obtain ⟨D, h1, h2, h3⟩ := h
  exact ⟨D, h1, fun x => (h2 x).trans (e x), fun x hx => h3 x ((e x).2 hx)⟩
theorem KS.made (w : World) : KS (w.alloc (.map #[] 0)) w.heap.size (fun _ => False) :=
  ⟨.map [], (World.ownsMap_made w _ _ _).mono (Nat.zero_le _), fun x => ⟨fun h => (by simp [has_eq] at h), fun h => h.elim⟩, fun x h => h.elim⟩
theorem keyLit (x : Nat) : WideAt.IsKeyLit (kL x) := trivial
theorem key_of {x : Nat} (hx : x < 18446744073709551616) : keyOf Tryz.prog 43 (.int .u64 ((x : Nat) : Int)) = some (kL x) := by
  have e1 : IntKind.u64.min = 0 := rfl
  have e2 : IntKind.u64.max = 18446744073709551615 := rfl
  exact Maps.keyOf_int_mk Tryz.underlying43 (by simp only [Lit.wf, e1, e2, Bool.and_eq_true, decide_eq_true_eq]; omega)
theorem KS.store {w : World} {b : Nat} {S : Nat → Prop} (h : KS w b S) {x : Nat} (hx : x < 16777216) (c : Bool) :
    ∃ w', (Instr.mapUpdate 72 (.map (some b)) (.int .u64 ((x : Nat) : Int)) (.bool c)).run Tryz.prog w = .ok () w' ∧ KS w' b (fun y => S y ∨ y = x) ∧ w.grownBy w' (some b) := by
  obtain ⟨D, h1, h2, h3⟩ := h
  obtain ⟨w', hrun, ho, hg⟩ := h1.update keyedK Tryz.underlying72 (by unfold maxLen; omega) (key_of (x := x) (by omega)) (plainElem_bool Tryz.underlying4 c)
  have hD : ∀ y : Nat, has (D.put (kL x) (.lit (.bool c))) (kL y) = true ↔ S y ∨ y = x := fun y => by
    by_cases e : y = x
    · subst e
      simp [has_put_same h1.isMap (keyLit y)]
    · have e2 : kL y ≠ kL x := fun h => e (by rw [← litN_kL y, h, litN_kL])
      rw [has_put_other e2, h2 y]
      simp [e]
  have hlt : ∀ y, S y ∨ y = x → y < 16777216 := fun y hy => by
    rcases hy with hy | rfl
    · exact h3 y hy
    · exact hx
  exact ⟨w', hrun, ⟨_, tight ho (fun y hy => hlt y ((hD y).1 hy)), hD, hlt⟩, hg⟩
theorem KS.clear {w : World} {b : Nat} {S : Nat → Prop} (h : KS w b S) (ty : TypeId) :
    ∃ w', (Builtin.clear_ #[72] ty #[.map (some b)]).run Tryz.prog w = .ok (.tuple #[]) w' ∧ KS w' b (fun _ => False) ∧ w.grownBy w' (some b) := by
  obtain ⟨D, ⟨es, clock, hb, F, hs, hD⟩, h2⟩ := h
  refine ⟨Go.ChangeMaps.setBlock w b (.map #[] clock), ?_, ⟨.map [], ⟨#[], clock, Go.ChangeMaps.heap_setBlock_same hb _, ⟨by simp, Go.MapKept.stamped_empty clock, by simp⟩, by simp, rfl⟩, fun x => ⟨fun h => (by simp [has_eq] at h), fun h => h.elim⟩, fun x h => h.elim⟩, ⟨rfl, rfl, rfl, by simp [Go.ChangeMaps.setBlock], fun i _ hi => Go.ChangeMaps.heap_setBlock_other hb _ (fun e => hi (by rw [e]))⟩⟩
  simp [Builtin.clear_, run_underlying Tryz.underlying72, Go.MapKept.run_getObj_map hb, Go.MapKept.run_setObj_map _ hb, Result.andThen, Go.ChangeMaps.setBlock]
end Go.Proofs.YtehdneppleifdaaGreatDoor

namespace Go.Proofs.YtehdneppleifdaaGreatDoor
open Go.RowKit Go.Shelf Go.Maps
set_option maxRecDepth 1000000
theorem bool_elem {c : Value} {y : DataW Unit × List MemPlace} (h : RB c = some y) : ∃ b, c = .bool b := by
  obtain ⟨b, h1, _⟩ := plainElem_bool_inv h
  exact ⟨b, h1⟩
set_option maxHeartbeats 2000000 in
theorem iCopy (w : World) (bd bs : Nat) (Sd Ss : Nat → Prop) (hd : KS w bd Sd) (hs : KS w bs Ss) (hne : bd ≠ bs) :
    Calls Tryz.prog 66 #[.map (some bd), .map (some bs)] w fun e w' => e = .returned (.tuple #[]) ∧ KS w' bd (fun y => Sd y ∨ Ss y) ∧ KS w' bs Ss ∧ w.grownBy w' (some bd) := by
  obtain ⟨D, hown, hDS, hlt⟩ := hs
  have HDS := Lib.hid hDS
  have HLT := Lib.hid hlt
  have HD := Lib.hid hd
  have hbd := hd.lt
  have hbs := hown.lt
  have HOW := Lib.hid hown
  clear hd hDS hlt
  go_enter Tryz.func66, Tryz.ntmps66
  go_wp2_with (first
    | (at_range; refine wpList_range_own _ rfl _ 72 rfl 43 4 keyedK Tryz.underlying72 RB bs 16777216 _ rfl hown ?_; intro w0 hrg0 hg0 hs0)
    | go_in)
  clear hown
  have HK0 : Hid (KS w0 bd Sd) := Lib.hid (HD.out.kept hg0 (by simp))
  have HG0 : Hid (w.grownBy w0 (some bd)) := Lib.hid (hg0.but _)
  clear hg0
  go_frame
  go_loopw [4, 5] (fun _ _ wr => ∃ (left : Lit → Bool) (cnt : Nat) (ss : List Nat), wr.ranges Tryz.prog 43 RB bs w.heap.size 16777216 D left cnt ∧ Met D left ss ∧ KS wr bd (fun y => Sd y ∨ y ∈ ss) ∧ w.grownBy wr (some bd)) (fun _ _ wr => wr.rangeLeft bs w.heap.size)
  case atStart =>
    exact ⟨_, _, [], hrg0, Met.start D, HK0.out.congr (fun x => by simp), HG0.out⟩
  case round =>
    obtain ⟨left, cnt, ss, hrg, hM, hks, hgr⟩ := hrel
    have HM := Lib.hid hM
    have HKS := Lib.hid hks
    have HGR := Lib.hid hgr
    have HRG := Lib.hid hrg
    clear hM hks hgr
    go_wp2_with (first
      | (at_next; refine wpList_next_ranges _ rfl _ rfl 43 keyedK RB (fun x : Nat => Value.int .u64 ((x : Nat) : Int)) id (fun key kl hk => by obtain ⟨x, hx, _⟩ := key_inv hk; exact ⟨x, hx⟩) (fun v _ _ => ⟨v, rfl⟩) bs w.heap.size 16777216 _ _ _ rfl hrg ?_ ?_)
      | go_in)
    · intro hc0 hl0
      go_wp2
      go_end0
      refine ⟨rfl, HKS.out.congr (fun x => ?_), ⟨D, HRG.out.owns, HDS.out, HLT.out⟩, HGR.out⟩
      have h1 : x ∈ ss ↔ Ss x := by
        rw [HM.out.mem, hl0]
        simp [HDS.out x]
      rw [h1]
    · intro x c kl yd yp w2 cnt2 hkey hlk hv hat hrg2 hlt hg2 hs2 hen
      obtain ⟨x', ex, rfl, hx64⟩ := key_inv hkey
      obtain rfl : x = x' := by
        injection ex with _ e
        omega
      obtain ⟨cb, rfl⟩ := bool_elem hv
      have hx24 : x < 16777216 := HLT.out x ((HDS.out x).1 (HM.out.sub x hlk))
      have hk2 : KS w2 bd (fun y => Sd y ∨ y ∈ ss) := HKS.out.kept hg2 (by simp; omega)
      have hgw2 : w.grownBy w2 (some bd) := HGR.out.andThen hg2 (fun j e => by cases e; exact .inl (Nat.le_refl _))
      obtain ⟨w3, hrun, hks3, hg3⟩ := hk2.store hx24 cb
      have hrg3 := hrg2.kept hg3 (by simp; omega) (by simp; omega)
      have HRG3 := Lib.hid hrg3
      have HKS3 := Lib.hid hks3
      have HGW3 : Hid (w.grownBy w3 (some bd)) := Lib.hid (hgw2.andThen hg3 (fun j e => .inr e))
      have HLK := Lib.hid hlk
      have HLT2 := Lib.hid hlt
      clear hs2 hk2 hgw2 hg3 hks3 hrg3 hrg2 hg2 hlk hlt hkey hv hat hrg
      go_wp2
      go_roundw
      case rel => exact ⟨_, cnt2, ss ++ [x], HRG3.out, HM.out.step HLK.out, HKS3.out.congr (fun y => by simp [or_assoc]), HGW3.out⟩
      case measure =>
        rw [HRG3.out.left_eq, HRG.out.left_eq]; exact HLT2.out
end Go.Proofs.YtehdneppleifdaaGreatDoor

namespace Go.Proofs.YtehdneppleifdaaGreatDoor
theorem mem_bits {m : Nat} (h : m < 2 ^ 24) (x : Nat) : x ∈ bitsN m ↔ m.testBit x = true := by
  constructor
  · exact fun hx => (upK_mem hx).2
  · intro hb
    unfold bitsN upK
    rw [List.mem_filter, List.mem_range]
    refine ⟨?_, hb⟩
    rcases Nat.lt_or_ge x 24 with h1 | h1
    · exact h1
    · rw [bit_no h x h1] at hb; cases hb
theorem bits_nodup (m : Nat) : (bitsN m).Nodup := by
  unfold bitsN upK
  exact List.Pairwise.filter _ List.nodup_range
theorem orF_bit (f : Nat → Int) (L : List Nat) (k : Nat) : (orF f L).testBit k = true ↔ ∃ x ∈ L, (f x).toNat = k := by
  have : ∀ (L : List Nat) (s : Nat), (L.foldl (fun s x => s ||| 2 ^ (f x).toNat) s).testBit k = true ↔ s.testBit k = true ∨ ∃ x ∈ L, (f x).toNat = k := by
    intro L
    induction L with
    | nil => intro s; simp
    | cons x t ih =>
      intro s
      rw [List.foldl_cons, ih, Nat.testBit_or, Nat.testBit_two_pow, Bool.or_eq_true, decide_eq_true_eq]
      simp only [List.mem_cons]
      constructor
      · rintro ((h | h) | ⟨y, hy, h⟩)
        · exact .inl h
        · exact .inr ⟨x, .inl rfl, h⟩
        · exact .inr ⟨y, .inr hy, h⟩
      · rintro (h | ⟨y, rfl | hy, h⟩)
        · exact .inl (.inl h)
        · exact .inl (.inr h)
        · exact .inr ⟨y, hy, h⟩
  unfold orF
  rw [this L 0]; simp
/-- The number of a set that is moved by f lies within the group, if f does. -/
theorem orF_set {l : List Int} (hg : grpB l = true) (f : Nat → Int) (L : List Nat) (hf : ∀ x, 0 ≤ f x ∧ f x < prodI l) : isS l ((orF f L : Nat) : Int) = true := by
  have hlt := orF_lt f L (prodI l).toNat (fun x _ => by have := hf x; omega)
  simp only [isS, hg, fullN_nat, Bool.true_and, Bool.and_eq_true, decide_eq_true_eq]
  generalize orF f L = A at *
  generalize 2 ^ (prodI l).toNat = N at *
  omega
end Go.Proofs.YtehdneppleifdaaGreatDoor

namespace Go.Proofs.YtehdneppleifdaaGreatDoor
theorem sdig_bndO {l : List Int} (h : Ords l) (x y : Int) {j : Nat} (hj : j < l.length) : 0 ≤ sdig l x y j ∧ sdig l x y j < l.getD j 0 := by
  have := h.pos j hj
  exact ⟨Int.emod_nonneg _ (by omega), Int.emod_lt_of_pos _ (by omega)⟩
theorem addN_dig {l : List Int} (h : Ords l) (x y : Int) {j : Nat} (hj : j < l.length) : dig l (addN l x y) j = (dig l x j + dig l y j) % l.getD j 0 := by
  rw [← sdig_eq]
  exact dig_val h _ _ _ hj (Nat.le_refl _) (fun _ hi => sdig_bndO h x y hi)
theorem addN_in {l : List Int} (h : Ords l) (x y : Int) : 0 ≤ addN l x y ∧ addN l x y < prodI l := by
  rw [← PK_full]; exact h.val_bnd _ (fun j hj => sdig_bndO h x y hj) _ (Nat.le_refl _)
theorem addN_comm (l : List Int) (x y : Int) : addN l x y = addN l y x := by
  apply val_congr
  intro j _
  rw [sdig_eq, sdig_eq, Int.add_comm]
theorem addN_assoc {l : List Int} (h : Ords l) (x y z : Int) : addN l (addN l x y) z = addN l x (addN l y z) := by
  apply val_congr
  intro j hj
  rw [sdig_eq, sdig_eq, addN_dig h x y hj, addN_dig h y z hj, Int.emod_add_emod, Int.add_emod_emod, Int.add_assoc]
theorem dig_zero0 (l : List Int) (j : Nat) : dig l 0 j = 0 := by unfold dig; simp
theorem addN_zero {l : List Int} (h : Ords l) {x : Int} (h0 : 0 ≤ x) (h1 : x < prodI l) : addN l x 0 = x := by
  have e : addN l x 0 = valK l (dig l x) l.length := by
    apply val_congr
    intro j _
    rw [sdig_eq, dig_zero0, Int.add_zero]
    unfold dig; rw [Int.emod_emod]
  rw [e, val_dig h h0 h1]
theorem addN_neg {l : List Int} (h : Ords l) (x : Int) : addN l x (negN l x) = 0 := by
  have e : addN l x (negN l x) = valK l (fun _ => 0) l.length := by
    apply val_congr
    intro j hj
    rw [sdig_eq]
    unfold negN
    rw [mulN_dig h x (-1) hj]
    unfold mulF
    rw [Int.add_emod_emod]
    rw [show dig l x j + dig l x j * -1 = 0 by omega]
    simp
  rw [e]
  have : ∀ k, valK l (fun _ => 0) k = 0 := by
    intro k; induction k with
    | zero => rfl
    | succ k ih => simp [valK, ih]
  exact this _
theorem add_neg_back {l : List Int} (h : Ords l) {x : Int} (y : Int) (h0 : 0 ≤ x) (h1 : x < prodI l) : addN l (addN l x y) (negN l y) = x := by
  rw [addN_assoc h, addN_neg h, addN_zero h h0 h1]
theorem negN_in {l : List Int} (h : Ords l) (x : Int) : 0 ≤ negN l x ∧ negN l x < prodI l := mulN_bnd h x (-1)
theorem negN_neg {l : List Int} (h : Ords l) {x : Int} (h0 : 0 ≤ x) (h1 : x < prodI l) : negN l (negN l x) = x := by
  show mulN l (negN l x) (-1) = x
  rw [mul_neg h, show (- -1 : Int) = 1 by decide, mulN_one h h0 h1]
/-- A list without doubles is no longer than one that holds it. -/
theorem len_le_of_sub : ∀ (L M : List Nat), L.Nodup → (∀ x ∈ L, x ∈ M) → L.length ≤ M.length
  | [], _, _, _ => by simp
  | x :: t, M, hn, hs => by
    rw [List.nodup_cons] at hn
    have hx := hs x (by simp)
    have := len_le_of_sub t (M.erase x) hn.2 (fun y hy => (List.mem_erase_of_ne (fun e => hn.1 (by rw [← e]; exact hy))).2 (hs y (by simp [hy])))
    rw [List.length_erase_of_mem hx] at this
    have := List.length_pos_of_mem hx
    rw [List.length_cons]; omega
end Go.Proofs.YtehdneppleifdaaGreatDoor
