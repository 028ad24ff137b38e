/- The program's own counts of a coefficient: a range over a set, with a character's value in each round. -/
import Derived.Test.YthlpjiibjlaebaaGreatDoorCofI
import Derived.OrdersHeld
namespace Go.Proofs.YthlpjiibjlaebaaGreatDoor
open Go.RowKit Go.Shelf
attribute [local go_sem] Oper.semAt_some
set_option maxRecDepth 1000000
theorem cells_own7 {β : Type} (b : Nat) (f : β → Array Value) (t : TypeId) : Own (fun (s : β) W => W.heap[b]? = some (.cells (f s) t (0, 0))) := fun s W W' row hs hg hr =>
  (hg.block b (Array.getElem?_eq_some_iff.1 hs).1 (fun e => by obtain ⟨o, ho, hc⟩ := hr b e.symm; rw [hs] at ho; cases ho; cases hc)).trans hs
def isDef7 : Op → Bool
  | .defer _ => true
  | _ => false
theorem no_defer7 {ops : Array Oper} (h : (ops.toList.all fun o => !isDef7 o.op) = true) : ∀ (i : Nat) (o : Oper), ops[i]? = some o → ∀ c, o.op ≠ .defer c := fun i o ho c e => by
  have h1 := List.all_eq_true.1 h o (by rw [← Array.getElem?_toList] at ho; exact List.mem_of_getElem? ho)
  rw [e] at h1
  cases h1
/-- make with its full length, in a fenced walk. -/
theorem wpListIn_make_full7 {F : Fence} {n : Nat} {P : Program} (w : World) {ops : Array Oper} {rest : List Oper} {o : Oper} {a : Act} {Q : Exit → Act → World → Prop}
    (hg : o.guard = none) (l c : Operand) (t : TypeId) (hop : o.op = Op.makeSlice t l c)
    (base : Nat) (e : TypeId) (i : TypeInfo) (z : Value) (size : Nat) (h1 : P.underlying t = some (.slice e)) (h2 : P.info? e = some i) (h3 : i.zero = some z) (h4 : i.size = size)
    (kl kc : IntKind) (L C : Int) (m : Nat) (hl : a.eval l = .int kl L) (hc : a.eval c = .int kc C) (hL : L = (m : Int)) (hC : C = (m : Int)) (b2 : i.bytes * m ≤ 281474976710656) (b3 : m ≤ maxLen) (b4 : base ≤ w.heap.size)
    (hK : ∀ w', w'.ownsRow base e size (.slice (some ⟨w.heap.size, 0, none⟩) m m) m (madeCells z.cells (m * size)).toList → w.grownBy w' none → wpListIn F n P ops Q rest (a.put o.dst (.slice (some ⟨w.heap.size, 0, none⟩) m m)) w') :
    wpListIn F n P ops Q (o :: rest) a w := by
  refine wpListIn_plain hg fun K hK' => ?_
  obtain ⟨w', hrun, r1, r2⟩ := _root_.Go.run_make_full (P := P) w base t e i z size h1 h2 h3 h4 kl kc m b2 b3 b4
  subst hL
  subst hC
  unfold Oper.wpIn
  refine ⟨?_, ?_⟩
  · simp [Oper.about, hop]
  · rw [Oper.semAt_plain F _ _ (by rw [hop]; intro c hc'; cases hc')]
    simp [execOp, hop, hl, hc, hrun, Result.andThen]
    exact hK' _ _ (hK w' r1 r2)
theorem keeps_below7 {W W' : World} (h : Below W.heap.size W W') : KeepsOthers W W' := ⟨h.size, fun k _ ho _ => (h.block k (Array.getElem?_eq_some_iff.1 ho).1).trans ho⟩
/-- What stands between two rounds: the counts' row, the variable that holds it, the character's variable, what it captured. -/
def CofInv (n0 N BX BC g bo bp be : Nat) (E : Int) (l : List Int) (k : Int) (f : Nat → Int) (W : World) : Prop :=
  W.ownsRow n0 3 1 (.slice (some ⟨g, 0, none⟩) N N) N (rowV f N) ∧ W.heap[BX]? = some (.cells #[.slice (some ⟨g, 0, none⟩) N N] 24 (0, 0)) ∧
    W.heap[BC]? = some (.cells #[.int .i64 E, chrF bo bp be] 49 (0, 0)) ∧ ChrAt W l k bo bp be
theorem cofInv_own {n0 N BX BC g bo bp be : Nat} {E : Int} {l : List Int} {k : Int} (f : List Nat → Nat → Int) : Own (fun (s : List Nat) W => CofInv n0 N BX BC g bo bp be E l k (f s) W) := by
  rintro s W W' row ⟨h1, h2, h3, h4⟩ hg hr
  have h := holdsRow_own n0 BX 24 3 1 (fun (_ : List Nat) => N) (fun s => rowV (f s) N) (fun _ v => v = .slice (some ⟨g, 0, none⟩) N N) s W W' row ⟨_, h2, h1, rfl⟩ hg hr
  obtain ⟨v, hv, hw, rfl⟩ := h
  exact ⟨hw, hv, cells_own7 (β := List Nat) BC (fun _ => #[.int .i64 E, chrF bo bp be]) 49 s W W' row h3 hg hr,
    ⟨cells_own7 (β := List Nat) bo (fun _ => _) 46 s W W' row h4.o hg hr, cells_own7 (β := List Nat) bp (fun _ => _) 46 s W W' row h4.p hg hr, cells_own7 (β := List Nat) be (fun _ => _) 3 s W W' row h4.e hg hr⟩⟩
theorem CofInv.below {n0 N BX BC g bo bp be : Nat} {E : Int} {l : List Int} {k : Int} {f : Nat → Int} {W W' : World} (h : CofInv n0 N BX BC g bo bp be E l k f W) (hb : Below W.heap.size W W') : CofInv n0 N BX BC g bo bp be E l k f W' := by
  obtain ⟨h1, h2, h3, h4⟩ := h
  exact ⟨owns_below h1 hb, keepH hb (Array.getElem?_eq_some_iff.1 h2).1 h2, keepH hb (Array.getElem?_eq_some_iff.1 h3).1 h3, h4.below hb⟩
theorem CofInv.set {n0 N BX BC g bo bp be : Nat} {E : Int} {l : List Int} {k : Int} {f : Nat → Int} {W : World} (h : CofInv n0 N BX BC g bo bp be E l k f W) (hX : BX ≠ g) (hC : BC ≠ g) (ho : bo ≠ g) (hp : bp ≠ g) (he : be ≠ g) {z : Nat} (hz : z < N) :
    CofInv n0 N BX BC g bo bp be E l k (fun e => f e + (if z = e then 1 else 0)) (W.setCell ⟨g, z, none⟩ (.int .i64 (f z + 1))) := by
  obtain ⟨h1, h2, h3, h4⟩ := h
  have hst := (h1.stored z (.int .i64 (f z + 1))).1
  rw [rowV_set f N z hz] at hst
  have hgr := grownG_set (World.grownBy.refl W (some g)) z (.int .i64 (f z + 1))
  have keep : ∀ b o, b ≠ g → W.heap[b]? = some o → (W.setCell ⟨g, z, none⟩ (.int .i64 (f z + 1))).heap[b]? = some o := fun b o hne hb =>
    (hgr.block b (Array.getElem?_eq_some_iff.1 hb).1 (fun e => hne (by cases e; rfl))).trans hb
  exact ⟨hst, keep _ _ hX h2, keep _ _ hC h3, h4.grown hgr ho hp he⟩
set_option maxHeartbeats 8000000 in
theorem iCov {l : List Int} (hg : grpB l = true) (w : World) (s : Nat) (hsn : s < 2 ^ (prodI l).toNat) (k : Int) {bo bp be : Nat} (hc : ChrAt w l k bo bp be) (B : Nat) (hB0 : B ≤ w.heap.size) (ht : TabZ B w) :
    Calls Tryz.prog 56 #[.agg #[.int .i64 (expN l), chrF bo bp be], .int .u64 s] w fun e w' => ∃ g, e = .returned (.slice (some ⟨g, 0, none⟩) (expN l).toNat (expN l).toNat) ∧ w'.ownsRow w.heap.size 3 1 (.slice (some ⟨g, 0, none⟩) (expN l).toNat (expN l).toNat) (expN l).toNat (rowV (cntZ l k (bitsN s)) (expN l).toNat) ∧ Below w.heap.size w w' := by
  obtain ⟨i0, hi0, hz0, hz1, hz2⟩ := info_parts intInfo
  have HTZ := Lib.hid ht
  have HC0 := Lib.hid hc
  have hE := expN_le hg
  obtain ⟨N, HN⟩ : ∃ N : Nat, Hid (expN l = (N : Int)) := ⟨(expN l).toNat, Lib.hid (by omega)⟩
  rw [HN.out] at hE
  have HNT : Hid ((expN l).toNat = N) := Lib.hid (by rw [HN.out]; rfl)
  rw [HNT.out, HN.out]
  have hN1 : 1 ≤ N := by omega
  have hN24 : N ≤ 24 := by omega
  have hs24 : s < 2 ^ 24 := grp_pow hg hsn
  have HVAL := Lib.hid (fun (W : World) (x : Nat) (hx : s.testBit x = true) (h : ChrAt W l k bo bp be) => iVal hg W k (x : Int) (by omega) (by have := el_of hg hsn hx; have := (ords_grp hg).prod; omega) h)
  have HCB : Hid (∀ x, 0 ≤ chN l k x ∧ chN l k x < (N : Int)) := Lib.hid (fun x => by have := chN_bnd (ords_grp hg) k x; rw [HN.out] at this; exact this)
  have HA := Lib.hid hs24
  clear hg hsn hc ht hs24 hE
  have HB := Lib.hid (Joins.below_alloc1 w (.cells #[.int .i64 (N : Int), chrF bo bp be] 49))
  have hq0 := heap_alloc_new w (.cells #[.int .i64 (N : Int), chrF bo bp be] 49)
  have HQ0 := Lib.hid hq0
  obtain ⟨q0, q1, _, _⟩ := two_cell hq0
  have HCA := Lib.hid (HC0.out.below HB.out)
  clear hq0
  refine (callsIn_wide (n := 6)).1 ?_
  refine callsIn_of_wp_marks Tryz.func56 rfl trivial ?_ rfl
  simp only [Tryz.ntmps56, List.size_toArray, List.length_cons, List.length_nil, Nat.reduceAdd, Nat.reduceSub, Array.replicate_succ, Array.replicate_zero, List.push_toArray, List.append_toArray, List.nil_append, List.cons_append]
  gi_wp2_with (gi_at_make; refine wpListIn_make_full7 _ rfl _ _ 24 rfl w.heap.size 3 i0 (.int .i64 0) 1 Tryz.underlying24 hi0 hz0 hz1 .i64 .i64 _ _ N rfl rfl (by rfl) (by rfl) (by rw [hz2]; omega) (by unfold maxLen; omega) (by simp) ?_; intro w4 hown hgrow)
  have hrow0 : w4.ownsRow w.heap.size 3 1 (.slice (some ⟨w.heap.size + 1, 0, none⟩) N N) N (rowV (cntZ l k []) N) := by
    have e : rowV (cntZ l k []) N = (madeCells #[Value.int .i64 0] N).toList := by rw [← rowV_zero N]; rfl
    rw [e]
    have h : w4.ownsRow w.heap.size 3 1 (.slice (some ⟨w.heap.size + 1, 0, none⟩) N N) N (madeCells (Value.int .i64 0).cells N).toList := by simpa using hown
    exact h
  have hB4 : Below (w.alloc (.cells #[.int .i64 (N : Int), chrF bo bp be] 49)).heap.size (w.alloc (.cells #[.int .i64 (N : Int), chrF bo bp be] 49)) w4 := (Below.refl _ _).grown hgrow (Nat.le_refl _) (fun q hq => by cases hq)
  have hg4 : w.heap.size + 1 < w4.heap.size := by have h := (hrow0.lt _ rfl).2; simpa using h
  have hal := Joins.below_alloc1 w4 (.cells #[.slice (some ⟨w.heap.size + 1, 0, none⟩) N N] 24)
  have HI0 : Hid (CofInv w.heap.size N w4.heap.size w.heap.size (w.heap.size + 1) bo bp be N l k (cntZ l k []) (w4.alloc (.cells #[.slice (some ⟨w.heap.size + 1, 0, none⟩) N N] 24))) := Lib.hid
    ⟨owns_below hrow0 hal, World.alloc_heap_new w4 _, keepH hal (by omega) (keepH hB4 (by simp) HQ0.out), (HCA.out.below hB4).below hal⟩
  have HB5 : Hid (Below w.heap.size w (w4.alloc (.cells #[.slice (some ⟨w.heap.size + 1, 0, none⟩) N N] 24))) := Lib.hid ((HB.out.trans (hB4.mono (by simp))).alloc (by omega) _)
  have HNE : Hid (w4.heap.size ≠ w.heap.size + 1 ∧ w.heap.size ≠ w.heap.size + 1 ∧ bo ≠ w.heap.size + 1 ∧ bp ≠ w.heap.size + 1 ∧ be ≠ w.heap.size + 1) := Lib.hid (by
    have h1 := (Array.getElem?_eq_some_iff.1 HC0.out.o).1
    have h2 := (Array.getElem?_eq_some_iff.1 HC0.out.p).1
    have h3 := (Array.getElem?_eq_some_iff.1 HC0.out.e).1
    omega)
  clear hrow0 hB4 hal hown hgrow q0 q1
  refine each_loopP s HA.out rfl B
    (fun pre W => CofInv w.heap.size N w4.heap.size w.heap.size (w.heap.size + 1) bo bp be N l k (cntZ l k pre) W ∧ Below w.heap.size w W)
    (OwnFrom.and (Own.from (cofInv_own (fun pre => cntZ l k pre)) _) (ownFrom_below (Nat.le_refl _) (by simp; omega)))
    (fun pre W h => HTZ.out.on (h.2.mono hB0))
    ⟨HI0.out, HB5.out⟩
    (fun y => { tmps := #[.agg #[.int .i64 (N : Int), chrF bo bp be], .int .u64 (s : Nat), .pointer (some ⟨w.heap.size, 0, none⟩), undef, .slice none 0 0, .pointer (some ⟨w4.heap.size, 0, none⟩), .int .i64 (y : Nat), .pointer (some ⟨w.heap.size, 0, none⟩), .int .i64 (N : Int), .slice (some ⟨w.heap.size + 1, 0, none⟩) N N, .int .u64 (s : Nat), .func (.func 79) #[.int .u64 (s : Nat)] #[], .int .i64 (y : Nat), undef, undef, undef, undef, undef, undef, undef, undef, undef, undef], defers := [] }) ?assign ?body ?done
  case assign =>
    intro lo y W K hK
    gi_wp2
    exact hK
  case body =>
    rintro lo pre y W hpin hbt hpl ⟨hI, hB⟩
    have HBW := Lib.hid hB
    have HDR := Lib.hid (hI.below (Below.refl _ W).drew)
    have HVY := Lib.hid (fun (W : World) (h : ChrAt W l k bo bp be) => HVAL.out W y hbt h)
    obtain ⟨v1, v2⟩ := HCB.out (y : Int)
    obtain ⟨v, hv⟩ : ∃ v : Nat, chN l k (y : Int) = (v : Int) := ⟨(chN l k (y : Int)).toNat, by omega⟩
    have HVV := Lib.hid hv
    rw [hv] at v2
    have hvN : v < N := by omega
    have hvi : ((v : Nat) : Int) < ((N : Nat) : Int) := by omega
    obtain ⟨f, HF⟩ : ∃ f, Hid (cntZ l k pre = f) := ⟨_, Lib.hid rfl⟩
    have HFN : Hid ((fun e => f e + (if v = e then 1 else 0)) = cntZ l k (pre ++ [y])) := Lib.hid (by
      funext e
      rw [cntZ_snoc l k pre y v e HVV.out, ← HF.out])
    have hFb := cntZ_bnd l k pre v
    rw [HF.out] at hFb HDR
    obtain ⟨fv, HFV⟩ : ∃ fv, Hid (f v = fv) := ⟨_, Lib.hid rfl⟩
    rw [HFV.out] at hFb
    obtain ⟨f1, f2⟩ := hFb
    have f3 : fv ≤ 24 := by omega
    have hwr : IntKind.i64.wrap (fv + 1) = fv + 1 := by rw [IntKind.wrap_i64]; omega
    clear hI hB hpin v1 hv f2
    gi_wp2
    refine region_round (S := (fun W' => W'.cell? ⟨w4.heap.size, 0, none⟩ = some (.slice (some ⟨w.heap.size + 1, 0, none⟩) N N) ∧ W'.cell? ⟨w.heap.size, 1, none⟩ = some (.func (.func 90) #[] #[.pointer (some ⟨bo, 0, none⟩), .pointer (some ⟨bp, 0, none⟩), .pointer (some ⟨be, 0, none⟩)])))
      (by kernel_rfl) (no_defer7 (by kernel_rfl)) (fun ⟨a', w', h'⟩ => by have h3 := And.left (a := Exit.outgrown = Exit.normal) h'; cases h3) ⟨one_cell7 HDR.out.2.1, (two_cell HDR.out.2.2.1).2.1⟩ (fun hHeld => ?_)
    refine wpAnyH_take (i := 0) (oi := _) (v := ?_) rfl (by as_aux_lemma => kernel_rfl) (by as_aux_lemma => kernel_rfl) (by as_aux_lemma => kernel_rfl) (fun _ _ _ h => h) (Or.inl ⟨by rfl, ?_⟩) (by assumption) ?_
    rotate_left
    · intro W' hSw
      try dsimp only at hSw
      obtain ⟨hs0, hs1⟩ := hSw
      simp only [List.getElem_toArray, List.getElem_cons_zero]
      go_simp
      try with_reducible rfl
    try simp only [Act.put, List.getElem_toArray, List.getElem_cons_zero, List.setIfInBounds_toArray, List.set_cons_zero, List.set_cons_succ]
    refine wpAnyH_take (i := 1) (oi := _) (v := ?_) rfl (by as_aux_lemma => kernel_rfl) (by as_aux_lemma => kernel_rfl) (by as_aux_lemma => kernel_rfl) (fun _ _ _ h => h) (Or.inl ⟨by rfl, ?_⟩) (by assumption) ?_
    rotate_left
    · intro W' hSw
      try dsimp only at hSw
      obtain ⟨hs0, hs1⟩ := hSw
      simp only [List.getElem_toArray, List.getElem_cons_succ, List.getElem_cons_zero]
      go_simp
      try with_reducible rfl
    try simp only [Act.put, List.getElem_toArray, List.getElem_cons_succ, List.getElem_cons_zero, List.setIfInBounds_toArray, List.set_cons_zero, List.set_cons_succ]
    refine wpAnyH_take (i := 2) (oi := _) (v := ?_) rfl (by as_aux_lemma => kernel_rfl) (by as_aux_lemma => kernel_rfl) (by as_aux_lemma => kernel_rfl) (fun _ _ _ h => h) (Or.inl ⟨by rfl, ?_⟩) (by assumption) ?_
    rotate_left
    · intro W' hSw
      try dsimp only at hSw
      obtain ⟨hs0, hs1⟩ := hSw
      simp only [List.getElem_toArray, List.getElem_cons_succ, List.getElem_cons_zero]
      go_simp
      try with_reducible rfl
    try simp only [Act.put, List.getElem_toArray, List.getElem_cons_succ, List.getElem_cons_zero, List.setIfInBounds_toArray, List.set_cons_zero, List.set_cons_succ]
    refine wpAnyH_take (i := 3) (oi := _) (v := ?_) rfl (by as_aux_lemma => kernel_rfl) (by as_aux_lemma => kernel_rfl) (by as_aux_lemma => kernel_rfl) (fun _ _ _ h => h) (Or.inl ⟨by rfl, ?_⟩) (by assumption) ?_
    rotate_left
    · intro W' hSw
      try dsimp only at hSw
      obtain ⟨hs0, hs1⟩ := hSw
      simp only [List.getElem_toArray, List.getElem_cons_succ, List.getElem_cons_zero]
      go_simp
      try with_reducible rfl
    try simp only [Act.put, List.getElem_toArray, List.getElem_cons_succ, List.getElem_cons_zero, List.setIfInBounds_toArray, List.set_cons_zero, List.set_cons_succ]
    refine wpAnyH_ready (rs := [4]) (by as_aux_lemma => kernel_rfl) (by simp) ?_
    refine AllReadyH.cons (o := _) rfl (fun K hK => ?_) (AllReadyH.nil)
    simp only [List.getElem_toArray, List.getElem_cons_succ, List.getElem_cons_zero]
    go_simp
    refine (HVY.out _ HDR.out.2.2.2).mono ?_
    rw [HVV.out]
    rintro e w9 ⟨rfl, hb9⟩
    have H9 := Lib.hid (HDR.out.below hb9)
    have HB9 := Lib.hid (HBW.out.drew.trans (hb9.mono HBW.out.drew.size))
    have HKO := Lib.hid (keeps_below7 (W := W) (((Below.refl _ W).drew).trans (by simpa using hb9)))
    clear hb9
    refine hK.out _ _ ⟨one_cell7 H9.out.2.1, (two_cell H9.out.2.2.1).2.1⟩ (fun hHeld => ?_)
    clear hK K
    try simp only [Act.put, List.getElem_toArray, List.getElem_cons_succ, List.getElem_cons_zero, List.setIfInBounds_toArray, List.set_cons_zero, List.set_cons_succ]
    have hfr := H9.out.1.frozenAt v
    have hcell := (H9.out.1.cellAt v (by omega)).trans (rowV_at f N v hvN)
    rw [HFV.out] at hcell
    have HSET := Lib.hid (H9.out.set HNE.out.1 HNE.out.2.1 HNE.out.2.2.1 HNE.out.2.2.2.1 HNE.out.2.2.2.2 hvN)
    rw [HFN.out, HFV.out] at HSET
    refine wpAnyH_ready (rs := [5]) (by as_aux_lemma => kernel_rfl) (by simp) ?_
    refine AllReadyH.cons (o := _) rfl (fun K hK => ?_) (AllReadyH.nil)
    simp only [List.getElem_toArray, List.getElem_cons_succ, List.getElem_cons_zero]
    go_simp
    refine hK.out _ _ ⟨one_cell7 H9.out.2.1, (two_cell H9.out.2.2.1).2.1⟩ (fun hHeld => ?_)
    clear hK K
    try simp only [Act.put, List.getElem_toArray, List.getElem_cons_succ, List.getElem_cons_zero, List.setIfInBounds_toArray, List.set_cons_zero, List.set_cons_succ]
    refine wpAnyH_ready (rs := [6]) (by as_aux_lemma => kernel_rfl) (by simp) ?_
    refine AllReadyH.cons (o := _) rfl (fun K hK => ?_) (AllReadyH.nil)
    simp only [List.getElem_toArray, List.getElem_cons_succ, List.getElem_cons_zero]
    go_simp
    refine hK.out _ _ ⟨one_cell7 H9.out.2.1, (two_cell H9.out.2.2.1).2.1⟩ (fun hHeld => ?_)
    clear hK K
    try simp only [Act.put, List.getElem_toArray, List.getElem_cons_succ, List.getElem_cons_zero, List.setIfInBounds_toArray, List.set_cons_zero, List.set_cons_succ]
    refine wpAnyH_ready (rs := [7]) (by as_aux_lemma => kernel_rfl) (by simp) ?_
    refine AllReadyH.cons (o := _) rfl (fun K hK => ?_) (AllReadyH.nil)
    simp only [List.getElem_toArray, List.getElem_cons_succ, List.getElem_cons_zero]
    go_simp
    refine hK.out _ _ ⟨one_cell7 H9.out.2.1, (two_cell H9.out.2.2.1).2.1⟩ (fun hHeld => ?_)
    clear hK K
    try simp only [Act.put, List.getElem_toArray, List.getElem_cons_succ, List.getElem_cons_zero, List.setIfInBounds_toArray, List.set_cons_zero, List.set_cons_succ]
    refine wpAnyH_ready (rs := [8]) (by as_aux_lemma => kernel_rfl) (by simp) ?_
    refine AllReadyH.cons (o := _) rfl (fun K hK => ?_) (AllReadyH.nil)
    simp only [List.getElem_toArray, List.getElem_cons_succ, List.getElem_cons_zero]
    go_simp
    refine hK.out _ _ ⟨one_cell7 H9.out.2.1, (two_cell H9.out.2.2.1).2.1⟩ (fun hHeld => ?_)
    clear hK K
    try simp only [Act.put, List.getElem_toArray, List.getElem_cons_succ, List.getElem_cons_zero, List.setIfInBounds_toArray, List.set_cons_zero, List.set_cons_succ]
    refine wpAnyH_ready (rs := [9]) (by as_aux_lemma => kernel_rfl) (by simp) ?_
    refine AllReadyH.cons (o := _) rfl (fun K hK => ?_) (AllReadyH.nil)
    simp only [List.getElem_toArray, List.getElem_cons_succ, List.getElem_cons_zero]
    go_simp
    try rw [hwr]
    refine hK.out _ _ ⟨one_cell7 HSET.out.2.1, (two_cell HSET.out.2.2.1).2.1⟩ (fun hHeld => ?_)
    clear hK K
    try simp only [Act.put, List.getElem_toArray, List.getElem_cons_succ, List.getElem_cons_zero, List.setIfInBounds_toArray, List.set_cons_zero, List.set_cons_succ]
    refine wpAnyH_done (by kernel_rfl) ?_ _
    exact ⟨rfl, HKO.out.trans (KeepsOthers.setCell _ _ _), HSET.out, HB9.out.setCell (p := ⟨w.heap.size + 1, v, none⟩) (Nat.le_succ _) _⟩
  case done =>
    rintro D W hD ⟨hI, hB⟩ hK
    have cX := one_cell7 hI.2.1
    have HROW := Lib.hid hI.1
    have HB6 := Lib.hid hB
    clear hI hB
    gi_wp2
    refine ⟨by simp, .inl ⟨_, _, rfl, run_takeDeferred hK, ?_⟩⟩
    exact ⟨_, results_tmp rfl _ _ _, _, rfl, ownsRow_putObj HROW.out _ hK rfl, HB6.out.trans (belowK_b (w := w) (Nat.le_refl _) W D _ _ (by simp at hD; omega) hK rfl rfl)⟩
end Go.Proofs.YthlpjiibjlaebaaGreatDoor
