/- The contract of the program's own SumTable: a range over a set within a range over a set. -/
import Derived.Test.YtaacofbmbpkeoaaGreatDoorMGAU
import Derived.Test.YtaacofbmbpkeoaaGreatDoorMGAV
import Derived.OwnWalkIn
namespace Go.Proofs.YtaacofbmbpkeoaaGreatDoor
open Go.RowKit Go.Shelf
attribute [local go_sem] Oper.semAt_some
set_option maxRecDepth 1000000
/-- make with its full length, in a fenced walk. -/
theorem wpListIn_make_full {F : Fence} {n : Nat} {P : Program} (w : World) {ops : Array Oper} {rest : List Oper} {o : Oper} {a : Act} {Q : Exit → Act → World → Prop}
    (hg : o.guard = none) (l c : Operand) (t : TypeId) (hop : o.op = Op.makeSlice t l c)
    (base : Nat) (e : TypeId) (i : TypeInfo) (z : Value) (size : Nat) (h1 : P.underlying t = some (.slice e)) (h2 : P.info? e = some i) (h3 : i.zero = some z) (h4 : i.size = size)
    (kl kc : IntKind) (L C : Int) (m : Nat) (hl : a.eval l = .int kl L) (hc : a.eval c = .int kc C) (hL : L = (m : Int)) (hC : C = (m : Int)) (b2 : i.bytes * m ≤ 281474976710656) (b3 : m ≤ maxLen) (b4 : base ≤ w.heap.size)
    (hK : ∀ w', w'.ownsRow base e size (.slice (some ⟨w.heap.size, 0, none⟩) m m) m (madeCells z.cells (m * size)).toList → w.grownBy w' none → wpListIn F n P ops Q rest (a.put o.dst (.slice (some ⟨w.heap.size, 0, none⟩) m m)) w') :
    wpListIn F n P ops Q (o :: rest) a w := by
  refine wpListIn_plain hg fun K hK' => ?_
  obtain ⟨w', hrun, r1, r2⟩ := _root_.Go.run_make_full (P := P) w base t e i z size h1 h2 h3 h4 kl kc m b2 b3 b4
  subst hL
  subst hC
  unfold Oper.wpIn
  refine ⟨?_, ?_⟩
  · simp [Oper.about, hop]
  · rw [Oper.semAt_plain F _ _ (by rw [hop]; intro c hc'; cases hc')]
    simp [execOp, hop, hl, hc, hrun, Result.andThen]
    exact hK' _ _ (hK w' r1 r2)
theorem keeps_below0 {W W' : World} (h : Below W.heap.size W W') : KeepsOthers W W' := ⟨h.size, fun k _ ho _ => (h.block k (Array.getElem?_eq_some_iff.1 ho).1).trans ho⟩
/-- How often z stands in a list. -/
def cntM (M : List Nat) (z : Nat) : Nat := M.countP (fun y => y == z)
theorem cntM_nil (z : Nat) : cntM [] z = 0 := rfl
theorem cntM_snoc (M : List Nat) (y z : Nat) : cntM (M ++ [y]) z = cntM M z + (if y = z then 1 else 0) := by
  unfold cntM
  rw [List.countP_append, List.countP_singleton]
  simp
theorem cntM_le (M : List Nat) (z : Nat) : cntM M z ≤ M.length := List.countP_le_length
theorem cntM_hit {l : List Int} (hg : grpB l = true) {t : Nat} (ht : t < 2 ^ (prodI l).toNat) (x z : Nat) : cntM (bitsN (movN l t x)) z = hitN l (bitsN t) x z := by
  rw [hit_iff hg ht]
  unfold cntM
  rw [countP_one _ _ (bits_nodup _) (fun a _ b _ h1 h2 => by simp only [beq_iff_eq] at h1 h2; omega)]
  have e : (∃ y ∈ bitsN (movN l t x), (y == z) = true) ↔ (movN l t x).testBit z = true := by
    constructor
    · rintro ⟨y, hy, h⟩
      simp only [beq_iff_eq] at h
      subst h
      exact (upK_mem hy).2
    · intro h
      exact ⟨z, (mem_bits (movN_lt24 hg t x) z).2 h, by simp⟩
  by_cases h : (movN l t x).testBit z = true
  · rw [if_pos (e.2 h), if_pos h]
  · rw [if_neg (fun h2 => h (e.1 h2)), if_neg h]
/-- What stands between two rounds: the table's row, the variable that holds it, the orders, the other set. -/
def TabInv (n0 N BO BT BX g : Nat) (p q r : Int) (t : Nat) (F : Nat → Nat) (W : World) : Prop :=
  W.ownsRow n0 3 1 (.slice (some ⟨g, 0, none⟩) N N) N (rowT F N) ∧ W.heap[BX]? = some (.cells #[.slice (some ⟨g, 0, none⟩) N N] 24 (0, 0)) ∧
    W.heap[BO]? = some (.cells #[.int .i64 p, .int .i64 q, .int .i64 r] 41 (0, 0)) ∧ W.heap[BT]? = some (.cells #[.int .u64 t] 43 (0, 0))
theorem tabInv_own {n0 N BO BT BX g : Nat} {p q r : Int} {t : Nat} (F : List Nat → Nat → Nat) : Own (fun (s : List Nat) W => TabInv n0 N BO BT BX g p q r t (F s) W) := by
  rintro s W W' row ⟨h1, h2, h3, h4⟩ hg hr
  have h := holdsRow_own n0 BX 24 3 1 (fun (_ : List Nat) => N) (fun s => rowT (F s) N) (fun _ v => v = .slice (some ⟨g, 0, none⟩) N N) s W W' row ⟨_, h2, h1, rfl⟩ hg hr
  obtain ⟨v, hv, hw, rfl⟩ := h
  exact ⟨hw, hv, cells_own (β := List Nat) BO (fun _ => #[.int .i64 p, .int .i64 q, .int .i64 r]) 41 s W W' row h3 hg hr, cells_own (β := List Nat) BT (fun _ => #[.int .u64 t]) 43 s W W' row h4 hg hr⟩
theorem TabInv.below {n0 N BO BT BX g : Nat} {p q r : Int} {t : Nat} {F : Nat → Nat} {W W' : World} (h : TabInv n0 N BO BT BX g p q r t F W) (hb : Below W.heap.size W W') : TabInv n0 N BO BT BX g p q r t F W' := by
  obtain ⟨h1, h2, h3, h4⟩ := h
  exact ⟨owns_below h1 hb, keepH hb (Array.getElem?_eq_some_iff.1 h2).1 h2, keepH hb (Array.getElem?_eq_some_iff.1 h3).1 h3, keepH hb (Array.getElem?_eq_some_iff.1 h4).1 h4⟩
theorem TabInv.set {n0 N BO BT BX g : Nat} {p q r : Int} {t : Nat} {F : Nat → Nat} {W : World} (h : TabInv n0 N BO BT BX g p q r t F W) (hO : BO ≠ g) (hT : BT ≠ g) (hX : BX ≠ g) {z : Nat} (hz : z < N) :
    TabInv n0 N BO BT BX g p q r t (fun k => F k + (if z = k then 1 else 0)) (W.setCell ⟨g, z, none⟩ (.int .i64 ((F z + 1 : Nat) : Int))) := by
  obtain ⟨h1, h2, h3, h4⟩ := h
  have hst := (h1.stored z (.int .i64 ((F z + 1 : Nat) : Int))).1
  rw [rowT_set F N z hz] at hst
  have hgr := grownG_set (World.grownBy.refl W (some g)) z (.int .i64 ((F z + 1 : Nat) : Int))
  have keep : ∀ b o, b ≠ g → W.heap[b]? = some o → (W.setCell ⟨g, z, none⟩ (.int .i64 ((F z + 1 : Nat) : Int))).heap[b]? = some o := fun b o hne hb =>
    (hgr.block b (Array.getElem?_eq_some_iff.1 hb).1 (fun e => hne (by cases e; rfl))).trans hb
  exact ⟨hst, keep _ _ hX h2, keep _ _ hO h3, keep _ _ hT h4⟩
theorem _root_.Go.World.ownsRow.shrinkT {w : World} {B C n : Nat} {v : Value} {xs : List Value} (h : w.ownsRow B 3 1 v n xs) (hc : C ≤ B) : w.ownsRow C 3 1 v n xs := by
  obtain ⟨h1, h2⟩ := h
  refine ⟨h1, ?_⟩
  rcases h2 with h2 | ⟨g, cap, cur, e, a1, rest⟩
  · exact .inl h2
  · exact .inr ⟨g, cap, cur, e, Nat.le_trans hc a1, rest⟩
set_option maxHeartbeats 8000000 in
theorem iSumT {l : List Int} (hg : grpB l = true) (w : World) (s t : Nat) (hsn : s < 2 ^ (prodI l).toNat) (htn : t < 2 ^ (prodI l).toNat) (B : Nat) (hB0 : B ≤ w.heap.size) (ht : TabZ B w) :
    Calls Tryz.prog 41 #[tV (l.getD 0 1) (l.getD 1 1) (l.getD 2 1), .int .u64 (s : Nat), .int .u64 (t : Nat)] w fun e w' => ∃ v, e = .returned v ∧ w'.ownsRow w.heap.size 3 1 v (tabN l s t).length ((tabN l s t).map (Value.int .i64)) ∧ Below w.heap.size w w' := by
  have HTZ := Lib.hid ht
  clear ht
  obtain ⟨i0, hi0, hz0, hz1, hz2⟩ := info_parts intInfo
  have HT := Lib.hid (tri_grp hg)
  have HP := prod_pad (grpB_true hg).1
  have hpr := (ords_grp hg).prod
  obtain ⟨N, HNN⟩ : ∃ N : Nat, Hid ((prodI l).toNat = N) := ⟨_, Lib.hid rfl⟩
  have HNI : Hid (l.getD 0 1 * l.getD 1 1 * l.getD 2 1 = (N : Int)) := Lib.hid (by rw [← HP]; have := HNN.out; omega)
  have hN24 : N ≤ 24 := by have := HNN.out; omega
  have HRES : Hid (tabN l s t = tabF (parN l (bitsN s) (bitsN t)) N) := Lib.hid (by unfold tabN; rw [HNN.out])
  have HGV : Hid (∀ x, shG (l.getD 0 1) (l.getD 1 1) (l.getD 2 1) t x = movN l t x) := Lib.hid (fun x => shG_mov hg t x)
  have HVL : Hid (∀ x, movN l t x < 2 ^ N) := Lib.hid (fun x => by rw [← HNN.out]; exact movN_lt hg t x)
  have HCH : Hid (∀ x z, cntM (bitsN (movN l t x)) z = hitN l (bitsN t) x z) := Lib.hid (fun x z => cntM_hit hg htn x z)
  have HTL : Hid ((bitsN t).length ≤ 24) := Lib.hid (bits_le t)
  rw [HRES.out]
  have HSN : Hid (s < 2 ^ N) := Lib.hid (by rw [← HNN.out]; exact hsn)
  rw [HP] at hsn htn
  obtain ⟨p, EP⟩ : ∃ p, Hid (l.getD 0 1 = p) := ⟨_, Lib.hid rfl⟩
  obtain ⟨q, EQ⟩ : ∃ q, Hid (l.getD 1 1 = q) := ⟨_, Lib.hid rfl⟩
  obtain ⟨r, ER⟩ : ∃ r, Hid (l.getD 2 1 = r) := ⟨_, Lib.hid rfl⟩
  rw [EP.out, EQ.out, ER.out] at HT hsn htn HGV HNI
  have HA := Lib.hid hsn
  have HTS := Lib.hid htn
  rw [EP.out, EQ.out, ER.out]
  clear hg HP hsn htn hpr
  refine (callsIn_wide (n := 6)).1 ?_
  refine callsIn_of_wp_marks Tryz.func41 rfl trivial ?_ rfl
  simp only [Tryz.ntmps41, List.size_toArray, List.length_cons, List.length_nil, Nat.reduceAdd, Nat.reduceSub, Array.replicate_succ, Array.replicate_zero, List.push_toArray, List.append_toArray, List.nil_append, List.cons_append]
  have R0 := Lib.hid (keepH (Joins.below_alloc1 _ (.cells #[.int .u64 t] 43)) (by simp) (heap_alloc_new w (.cells #[.int .i64 p, .int .i64 q, .int .i64 r] 41)))
  have R1 : Hid (((w.alloc (.cells #[.int .i64 p, .int .i64 q, .int .i64 r] 41)).alloc (.cells #[.int .u64 t] 43)).heap[w.heap.size + 1]? = some (.cells #[.int .u64 t] 43 (0, 0))) := Lib.hid (by simpa using heap_alloc_new (w.alloc (.cells #[.int .i64 p, .int .i64 q, .int .i64 r] 41)) (.cells #[.int .u64 t] 43))
  obtain ⟨y0, y1, y2, _, _, _⟩ := trip_cell R0.out
  gi_wp2
  refine ⟨trivial, ?_⟩
  refine (callsIn_wide.2 (iProduct _ p q r HT.out)).mono ?_
  rw [HNI.out]
  rintro e w2 ⟨rfl, hb2⟩
  have R0b := Lib.hid (keepH hb2 (by simp <;> omega) R0.out)
  have R1b := Lib.hid (keepH hb2 (by simp) R1.out)
  have hws2 := hb2.size
  simp only [World.size_alloc] at hws2
  have T2 := Lib.hid ((Joins.below_alloc2 w (.cells #[.int .i64 p, .int .i64 q, .int .i64 r] 41) (.cells #[.int .u64 t] 43)).trans (hb2.mono (by simp; omega)))
  clear hb2
  gi_wp2_with (gi_at_make; refine wpListIn_make_full _ rfl _ _ 24 rfl w.heap.size 3 i0 (.int .i64 0) 1 Tryz.underlying24 hi0 hz0 hz1 .i64 .i64 _ _ N rfl rfl (by rfl) (by rfl) (by rw [hz2]; omega) (by unfold maxLen; omega) (by omega) ?_; intro w4 hown hgrow)
  have hrow0 : w4.ownsRow w.heap.size 3 1 (.slice (some ⟨w2.heap.size, 0, none⟩) N N) N (rowT (fun z => parN l [] (bitsN t) z) N) := by
    have e : rowT (fun z => parN l [] (bitsN t) z) N = rowT (fun _ => 0) N := by congr 1
    rw [e, rowT_zero]
    rw [Nat.mul_one] at hown
    exact hown
  have hB4 : Below w2.heap.size w2 w4 := (Below.refl _ w2).grown hgrow (Nat.le_refl _) (fun q hq => by cases hq)
  have hg4 : w2.heap.size < w4.heap.size := (hown.lt _ rfl).2
  have hal := Joins.below_alloc1 w4 (.cells #[.slice (some ⟨w2.heap.size, 0, none⟩) N N] 24)
  have HTI0 : Hid (TabInv w.heap.size N w.heap.size (w.heap.size + 1) w4.heap.size w2.heap.size p q r t (fun z => parN l [] (bitsN t) z) (w4.alloc (.cells #[.slice (some ⟨w2.heap.size, 0, none⟩) N N] 24))) := Lib.hid
    ⟨owns_below hrow0 hal, World.alloc_heap_new w4 _, keepH hal (by omega) (keepH hB4 (by omega) R0b.out), keepH hal (by omega) (keepH hB4 (by omega) R1b.out)⟩
  have HB5 : Hid (Below w.heap.size w (w4.alloc (.cells #[.slice (some ⟨w2.heap.size, 0, none⟩) N N] 24))) := Lib.hid ((T2.out.grown hgrow (by omega) (fun q hq => by cases hq)).alloc (by omega) _)
  clear hrow0 hB4 hal hown hgrow
  have HNE : Hid (w.heap.size ≠ w2.heap.size ∧ w.heap.size + 1 ≠ w2.heap.size ∧ w4.heap.size ≠ w2.heap.size) := Lib.hid (by omega)
  refine each_loopH s (tri_pow HT.out HA.out) rfl B
    (fun pre W => TabInv w.heap.size N w.heap.size (w.heap.size + 1) w4.heap.size w2.heap.size p q r t (fun z => parN l pre (bitsN t) z) W ∧ Below w.heap.size w W)
    (OwnFrom.and (Own.from (tabInv_own (fun pre z => parN l pre (bitsN t) z)) _) (ownFrom_below (Nat.le_refl _) (by simp; omega)))
    (fun pre W h => HTZ.out.on (h.2.mono hB0))
    ⟨HTI0.out, HB5.out⟩
    (fun y => { tmps := #[tV p q r, .int .u64 (s : Nat), .int .u64 (t : Nat), .pointer (some ⟨w.heap.size, 0, none⟩), undef, .pointer (some ⟨w.heap.size + 1, 0, none⟩), .slice none 0 0, .pointer (some ⟨w4.heap.size, 0, none⟩), .int .i64 (y : Nat), undef, .agg #[.int .i64 p, .int .i64 q, .int .i64 r], .int .i64 (N : Nat), .slice (some ⟨w2.heap.size, 0, none⟩) N N, .int .u64 (s : Nat), .func (.func 68) #[.int .u64 (s : Nat)] #[], .int .i64 (y : Nat), undef, undef, undef, undef, undef, undef, undef, undef, undef, undef, undef, undef, undef], defers := [] }) ?assign ?body ?done
  case assign =>
    intro lo y W K hK
    gi_wp2
    exact hK
  case body =>
    rintro lo pre y W hlo hrec _ hbt hpl ⟨hTI, hB⟩
    have HTI := Lib.hid hTI
    have HBW := Lib.hid hB
    have HPL := Lib.hid hpl
    have HLO := Lib.hid hlo
    have HREC := Lib.hid hrec
    obtain ⟨d0, d1, d2, _, _, _⟩ := trip_cell hTI.2.2.1
    have e0 : W.cell? ⟨w.heap.size + 1, 0, none⟩ = some (.int .u64 t) := by simp [World.cell?, hTI.2.2.2]
    have HYN := Lib.hid (tri_elt HT.out HA.out hbt)
    have HCY := Lib.hid (HCH.out y)
    have HVY := Lib.hid (HVL.out y)
    obtain ⟨V, HV⟩ : ∃ V, Hid (movN l t y = V) := ⟨_, Lib.hid rfl⟩
    rw [HV.out] at HCY HVY
    have HSH : Hid (shG p q r t y = V) := Lib.hid (by rw [HGV.out, HV.out])
    have HV24 : Hid (V < 2 ^ 24) := Lib.hid (Nat.lt_of_lt_of_le HVY.out (Nat.pow_le_pow_right (by decide) hN24))
    clear hTI hB hpl hbt hlo hrec
    gi_wp2
    refine ⟨trivial, ?_⟩
    refine (CallsIn.inRound lo (callsIn_wide.2 (iShG _ p q r t y HT.out HTS.out HYN.out))).mono ?_
    rw [HSH.out]
    rintro e W3 ⟨rfl, hb3⟩
    have HB3 := Lib.hid hb3
    have HTI3 := Lib.hid (HTI.out.below hb3)
    have HBW3 := Lib.hid (HBW.out.trans (hb3.mono HBW.out.size))
    have HREC3 : Hid (∃ r, W3.heap[lo]? = some (.loop r)) := Lib.hid (by obtain ⟨r0, h0⟩ := HREC.out; exact ⟨r0, keepH hb3 (Array.getElem?_eq_some_iff.1 h0).1 h0⟩)
    clear hb3
    gi_wp2
    refine each_inner V HV24.out HREC3.out rfl B
      (fun M W' => TabInv w.heap.size N w.heap.size (w.heap.size + 1) w4.heap.size w2.heap.size p q r t (fun z => parN l pre (bitsN t) z + cntM M z) W' ∧ Below w.heap.size w W')
      (OwnFrom.and (Own.from (tabInv_own (fun M z => parN l pre (bitsN t) z + cntM M z)) _) (ownFrom_below (Nat.le_refl _) HBW3.out.size))
      (fun M W' h => HTZ.out.on (h.2.mono hB0))
      ⟨HTI3.out, HBW3.out⟩
      (fun z => { tmps := #[tV p q r, .int .u64 (s : Nat), .int .u64 (t : Nat), .pointer (some ⟨w.heap.size, 0, none⟩), undef, .pointer (some ⟨w.heap.size + 1, 0, none⟩), .slice none 0 0, .pointer (some ⟨w4.heap.size, 0, none⟩), .int .i64 (y : Nat), .int .i64 (z : Nat), .agg #[.int .i64 p, .int .i64 q, .int .i64 r], .int .i64 (N : Nat), .slice (some ⟨w2.heap.size, 0, none⟩) N N, .int .u64 (s : Nat), .func (.func 68) #[.int .u64 (s : Nat)] #[], .int .i64 (y : Nat), .agg #[.int .i64 p, .int .i64 q, .int .i64 r], .int .u64 (t : Nat), .int .i64 (y : Nat), .int .u64 (V : Nat), .func (.func 68) #[.int .u64 (V : Nat)] #[], .int .i64 (z : Nat), undef, undef, undef, undef, undef, undef, undef], defers := [] }) ?iassign ?ibody ?idone
    case iassign =>
      intro lo2 z W' K hK
      gi_wp2
      exact hK
    case ibody =>
      rintro lo2 M z W5 _ hbz hpl2 ⟨hT5, hB6⟩
      have HT5 := Lib.hid hT5
      have HB6 := Lib.hid hB6
      have hzN : z < N := by
        rcases Nat.lt_or_ge z N with h | h
        · exact h
        · rw [bit_no HVY.out z h] at hbz; cases hbz
      have HZN := Lib.hid hzN
      have cX : W5.cell? ⟨w4.heap.size, 0, none⟩ = some (.slice (some ⟨w2.heap.size, 0, none⟩) N N) := by simp [World.cell?, hT5.2.1]
      have hfr := hT5.1.frozenAt z
      have hcell := (hT5.1.cellAt z (by omega)).trans (rowT_at _ N z hzN)
      have hFb : parN l pre (bitsN t) z + cntM M z ≤ 600 := by
        have h1 := parN_le l (bitsN t) z pre
        have h2 := cntM_le M z
        have h3 : pre.length * (bitsN t).length ≤ 24 * 24 := Nat.mul_le_mul (Nat.le_of_lt HPL.out) HTL.out
        omega
      obtain ⟨F, HF⟩ : ∃ F, Hid ((fun z => parN l pre (bitsN t) z + cntM M z) = F) := ⟨_, Lib.hid rfl⟩
      have hFv : parN l pre (bitsN t) z + cntM M z = F z := by rw [← HF.out]
      rw [HF.out] at HT5
      rw [hFv] at hFb hcell
      have HNX : Hid ((fun k => F k + (if z = k then 1 else 0)) = fun k => parN l pre (bitsN t) k + cntM (M ++ [z]) k) := Lib.hid (by
        funext k; rw [← HF.out, cntM_snoc, Nat.add_assoc])
      have HSET := Lib.hid (HT5.out.set HNE.out.1 HNE.out.2.1 HNE.out.2.2 hzN)
      rw [HNX.out] at HSET
      obtain ⟨fv, HFV⟩ : ∃ fv, Hid (F z = fv) := ⟨_, Lib.hid rfl⟩
      rw [HFV.out] at hFb hcell HSET
      have hFi : ((fv : Nat) : Int) ≤ 600 := by omega
      have hvi : ((z : Nat) : Int) < ((N : Nat) : Int) := by omega
      clear hT5 hB6 hbz hpl2 hFv hFb
      gi_wp2
      exact ⟨rfl, KeepsOthers.setCell _ _ _, by simpa using HSET.out, HB6.out.setCell (p := ⟨w2.heap.size, z, none⟩) (by show w.heap.size ≤ w2.heap.size; omega) _⟩
    case idone =>
      rintro W6 hk6 ⟨hT6, hB6⟩
      have HN2 : Hid ((fun z => parN l pre (bitsN t) z + cntM (bitsN V) z) = fun z => parN l (pre ++ [y]) (bitsN t) z) := Lib.hid (by
        funext z; rw [HCY.out, parN_snoc])
      rw [HN2.out] at hT6
      exact ⟨rfl, (keeps_below0 HB3.out).trans hk6, hT6, hB6⟩
  case done =>
    rintro D W hD ⟨hT6, hB6⟩ hK
    have cX : W.cell? ⟨w4.heap.size, 0, none⟩ = some (.slice (some ⟨w2.heap.size, 0, none⟩) N N) := by simp [World.cell?, hT6.2.1]
    have HROW := Lib.hid hT6.1
    have HB6 := Lib.hid hB6
    clear hT6 hB6
    gi_wp2
    refine ⟨by simp, .inl ⟨_, _, rfl, run_takeDeferred hK, ?_⟩⟩
    refine ⟨_, results_tmp rfl _ _ _, _, rfl, ?_, HB6.out.trans (belowK_b (w := w) (Nat.le_refl _) W D _ _ (by simp at hD; omega) hK rfl rfl)⟩
    rw [tabF_len]
    exact ownsRow_putObj HROW.out _ hK rfl
set_option maxHeartbeats 8000000 in
theorem iTab (w : World) (a : Option Addr) (l : List Int) (n cap : Nat) (s t : Int) (hn : n = l.length) (hm : n ≤ 9223372036854775807) (hi : Ints w a l) (B : Nat) (hB0 : B ≤ w.heap.size) (ht : TabZ B w) :
    Calls Tryz.prog 8 #[.agg #[.slice a n cap], .int .i64 s, .int .i64 t] w fun e w' => ∃ v, e = .returned v ∧ w'.ownsRow w.heap.size 3 1 v (tabE l s t).length ((tabE l s t).map (Value.int .i64)) ∧ Below w.heap.size w w' := by
  have HTZ := Lib.hid ht
  clear ht
  have HI := Lib.hid (ints_alloc hi (.cells #[.slice a n cap] 26))
  have HN := Lib.hid hn
  have C1 := newC w (.slice a n cap) 26 (n := w.heap.size) rfl
  have HB := Lib.hid (Joins.below_alloc1 w (.cells #[.slice a n cap] 26))
  have T0 := Lib.hid (Below.refl (w.alloc (.cells #[.slice a n cap] 26)).heap.size (w.alloc (.cells #[.slice a n cap] 26)))
  clear hi hn
  cases hs : two l s t with
  | false =>
    have HS := Lib.hid hs
    rw [show tabE l s t = [] by unfold tabE; rw [if_neg (by simp [hs])]]
    clear hs
    go_enter Tryz.func8, Tryz.ntmps8
    go_wp2_with (go_at_call 39; refine (iSetsIn_no _ _ _ _ _ _ _ HN.out hm (HI.out.below rfl T0.out) HS.out).mono ?_; rintro e w1 ⟨p, q, r, u, v, rfl, hb1⟩)
    go_ret
    exact ⟨_, rfl, ⟨rfl, .inl ⟨rfl, rfl⟩⟩, HB.out.trans ((hb1.mono (by simp)).alloc (Nat.le_trans (by simp) hb1.size) _)⟩
  | true =>
    have HS := Lib.hid hs
    obtain ⟨hg, s, t, rfl, rfl, hsn, htn⟩ := two_true hs
    rw [show tabE l s t = tabN l s t by unfold tabE; rw [if_pos hs]; rfl]
    have HST := Lib.hid (fun (W : World) h1 h2 => iSumT hg W s t hsn htn B h1 h2)
    obtain ⟨M, HM⟩ : ∃ M, Hid (tabN l s t = M) := ⟨_, Lib.hid rfl⟩
    rw [HM.out] at HST
    rw [HM.out]
    obtain ⟨p, EP⟩ : ∃ p, Hid (l.getD 0 1 = p) := ⟨_, Lib.hid rfl⟩
    obtain ⟨q, EQ⟩ : ∃ q, Hid (l.getD 1 1 = q) := ⟨_, Lib.hid rfl⟩
    obtain ⟨r, ER⟩ : ∃ r, Hid (l.getD 2 1 = r) := ⟨_, Lib.hid rfl⟩
    rw [EP.out, EQ.out, ER.out] at HST
    clear hs hg hsn htn
    go_enter Tryz.func8, Tryz.ntmps8
    go_wp2_with (first
      | (go_at_call 41; refine (HST.out _ (Nat.le_trans (Nat.le_trans hB0 T1.out.size) T2.out.size) (HTZ.out.on ((T1.out.trans (T2.out.mono T1.out.size)).mono hB0))).mono ?_; rintro e w3 ⟨v3, rfl, ho3, hb3⟩; have O3 := Lib.hid ho3; have B3 := Lib.hid hb3; clear ho3 hb3)
      | (go_at_call 39; refine (iSetsIn_yes _ _ _ _ _ _ _ HN.out hm (HI.out.below rfl T0.out) HS.out).mono ?_; rw [EP.out, EQ.out, ER.out]; rintro e w1 ⟨rfl, hb1⟩; have T1 := Lib.hid (HB.out.trans (hb1.mono (by simp))); have T2 := Lib.hid (Joins.below_alloc1 w1 (.cells #[.int .i64 p, .int .i64 q, .int .i64 r] 41)); have HAL := Lib.hid (heap_alloc_new w1 (.cells #[.int .i64 p, .int .i64 q, .int .i64 r] 41)); obtain ⟨y0, y1, y2, _, _, _⟩ := trip_cell HAL.out; clear hb1))
    go_ret
    exact ⟨_, rfl, O3.out.shrinkT (Nat.le_trans T1.out.size T2.out.size), (T1.out.trans (T2.out.mono T1.out.size)).trans (B3.out.mono (Nat.le_trans T1.out.size T2.out.size))⟩
end Go.Proofs.YtaacofbmbpkeoaaGreatDoor
