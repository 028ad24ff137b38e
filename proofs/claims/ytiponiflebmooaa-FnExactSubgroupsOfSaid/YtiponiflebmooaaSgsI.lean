/- The program's list of all subgroups, as numbers. -/
import Derived.Test.YtiponiflebmooaaSubsI
import Derived.Test.YtiponiflebmooaaNumI
namespace Go.Proofs.Ytiponiflebmooaa
open Go.RowKit Go.Shelf
set_option maxRecDepth 1000000
theorem nodup_sub : ∀ (L M : List Nat), L.Nodup → (∀ x ∈ L, x ∈ M) → L.length ≤ M.length
  | [], _, _, _ => Nat.zero_le _
  | a :: r, M, hn, h => by
    have ha := h a (by simp)
    have h1 := nodup_sub r (M.erase a) (List.nodup_cons.1 hn).2 (fun x hx => (List.mem_erase_of_ne (fun e => (List.nodup_cons.1 hn).1 (by rw [← e]; exact hx))).2 (h x (by simp [hx])))
    have h2 := List.length_erase_of_mem ha
    have h3 := List.length_pos_of_mem ha
    simp only [List.length_cons]
    omega
/-- At most so many subgroups. -/
theorem sg_len {l : List Int} {L : List Nat} (h : SgList l L) : L.length ≤ 13824 := by
  cases hg : grpB l with
  | false =>
    obtain rfl : L = [] := by
      apply List.eq_nil_iff_forall_not_mem.2
      intro m hm
      have := ((h.2 m).1 hm).1
      rw [hg] at this
      cases this
    simp
  | true =>
    obtain ⟨C, hC⟩ := clo_fun hg
    have hP := (ords_grp hg).prod
    have h1 := nodup_sub L ((List.range 13824).map fun i => sumN l (sumN l (C (2 ^ (i / 576))) (C (2 ^ (i / 24 % 24)))) (C (2 ^ (i % 24)))) (h.1.imp fun h => Nat.ne_of_lt h) (fun s hs => by
      obtain ⟨x, y, z, a, b, c, hx, hy, hz, ha, hb, hc, he⟩ := sum3 hg ((h.2 s).1 hs).2
      have x24 : x < 24 := by omega
      have y24 : y < 24 := by omega
      have z24 : z < 24 := by omega
      have p24 : ∀ k, k < 24 → 2 ^ k < 2 ^ 24 := fun k hk => Nat.pow_lt_pow_right (by decide) hk
      refine List.mem_map.2 ⟨x * 576 + y * 24 + z, List.mem_range.2 (by omega), ?_⟩
      have e1 : (x * 576 + y * 24 + z) / 576 = x := by omega
      have e2 : (x * 576 + y * 24 + z) / 24 % 24 = y := by omega
      have e3 : (x * 576 + y * 24 + z) % 24 = z := by omega
      show sumN l (sumN l (C (2 ^ ((x * 576 + y * 24 + z) / 576))) (C (2 ^ ((x * 576 + y * 24 + z) / 24 % 24)))) (C (2 ^ ((x * 576 + y * 24 + z) % 24))) = s
      rw [e1, e2, e3, (hC _ (p24 x x24)).one ha, (hC _ (p24 y y24)).one hb, (hC _ (p24 z z24)).one hc, he])
    rwa [List.length_map, List.length_range] at h1
theorem sg_ex (l : List Int) : ∃ L, SgList l L := by
  refine ⟨(List.range (2 ^ (prodI l).toNat)).filter fun m => @decide (grpB l = true ∧ IsSg l m) (Classical.propDecidable _), List.pairwise_lt_range.filter _, fun m => ?_⟩
  rw [List.mem_filter, List.mem_range]
  simp only [decide_eq_true_eq]
  exact ⟨fun h => h.2, fun h => ⟨h.2.1, h⟩⟩
set_option maxHeartbeats 4000000 in
theorem iSubsOf (w : World) (a : Option Addr) (l : List Int) (n cap : Nat) (L : List Nat) (hL : SgList l L) (hn : n = l.length) (hm : n ≤ 9223372036854775807) (hi : Ints w a l) :
    Calls Try.prog 7 #[.agg #[.slice a n cap]] w fun e w' => ∃ v, e = .returned (.tuple #[v, .bool (grpB l)]) ∧ w'.ownsRow w.heap.size 3 1 v L.length ((NL L).map (Value.int .i64)) ∧ Below w.heap.size w w' := by
  have HI := Lib.hid (ints_alloc hi (.cells #[.slice a n cap] 28))
  have HN := Lib.hid hn
  have HL := Lib.hid hL
  have C1 := newC w (.slice a n cap) 28 (n := w.heap.size) rfl
  have HB := Lib.hid (Joins.below_alloc1 w (.cells #[.slice a n cap] 28))
  have hlen := sg_len hL
  clear hi hn hL
  cases hg : grpB l with
  | false =>
    have HG := Lib.hid hg
    obtain rfl : L = [] := SgList.one HL.out ⟨List.Pairwise.nil, fun m => ⟨(fun h => by cases h), (fun h => by rw [hg] at h; cases h.1)⟩⟩
    clear hg
    go_enter Try.func7, Try.ntmps7
    go_wp2_with (go_at_call 20; refine (iOrders _ _ _ _ _ HN.out hm HI.out).mono ?_; unfold OrdersPost; rw [HG.out]; rintro e w1 ⟨x, y, z, rfl, _, hb1⟩; have TA := Lib.hid ((HB.out.trans (hb1.mono (by simp))).alloc (Nat.le_trans (by simp) hb1.size) (.cells #[.int .i64 x, .int .i64 y, .int .i64 z] 41)); clear hb1)
    go_ret2
    exact ⟨_, rfl, World.ownsRow_nil _ _ _ _, TA.out⟩
  | true =>
    have HG := Lib.hid hg
    have HGG := Lib.hid hg
    obtain ⟨p, EP⟩ : ∃ p, Hid (l.getD 0 1 = p) := ⟨_, Lib.hid rfl⟩
    obtain ⟨q, EQ⟩ : ∃ q, Hid (l.getD 1 1 = q) := ⟨_, Lib.hid rfl⟩
    obtain ⟨r, ER⟩ : ∃ r, Hid (l.getD 2 1 = r) := ⟨_, Lib.hid rfl⟩
    have HSB := Lib.hid (fun (W : World) => iSubs hg W L HL.out)
    rw [EP.out, EQ.out, ER.out] at HSB
    have HLT : Hid (∀ x ∈ L, x < 16777216) := Lib.hid (fun x hx => grp_pow hg ((HL.out.2 x).1 hx).2.1)
    clear hg
    go_enter Try.func7, Try.ntmps7
    go_wp2_with (first
      | (go_at_call 21; refine (iNumbers w2 (some ⟨g2, 0, none⟩) L L.length cap2 rfl (by omega) HLT.out HEL.out).mono ?_; rintro e w3 ⟨rfl, ho3, hb3⟩)
      | (go_at_call 22; refine (HSB.out _).mono ?_; rintro e w2 ⟨v2, rfl, ⟨g2, cap2, rfl, _⟩, ho2, hb2⟩; obtain ⟨a2, cap3, e2, hels⟩ := els_own rfl ho2; cases e2; have HEL := Lib.hid hels; have T2 := Lib.hid (TA.out.trans (hb2.mono TA.out.size)); clear hels ho2 hb2)
      | (go_at_call 20; refine (iOrders _ _ _ _ _ HN.out hm HI.out).mono ?_; unfold OrdersPost; rw [HG.out]; rintro e w1 ⟨p', q', r', rfl, hpqr, hb1⟩; obtain ⟨e1, e2, e3⟩ := hpqr rfl; clear hpqr; rw [EP.out] at e1; rw [EQ.out] at e2; rw [ER.out] at e3; subst e1 e2 e3; have TA := Lib.hid ((HB.out.trans (hb1.mono (by simp))).alloc (Nat.le_trans (by simp) hb1.size) (.cells #[.int .i64 p', .int .i64 q', .int .i64 r'] 41)); obtain ⟨d0, d1, d2, _, _, _⟩ := trip_cell (heap_alloc_new w1 (.cells #[.int .i64 p', .int .i64 q', .int .i64 r'] 41)); clear hb1))
    go_ret2
    exact ⟨_, rfl, Joins.ownsRow_le ho3 T2.out.size, T2.out.trans (hb3.mono T2.out.size)⟩
end Go.Proofs.Ytiponiflebmooaa
