/- All subgroups of a group, by the document's reading: ascending, none twice. -/
import Derived.Test.YtaacofbmbpkeoaaGreatDoorPutSpec
import Derived.Test.YtaacofbmbpkeoaaGreatDoorSgMath
import Derived.Deep.RegionHeld3
import Derived.Deep.DeepCutAuto
namespace Go.Proofs.YtaacofbmbpkeoaaGreatDoor
open Go.RowKit
set_option maxRecDepth 1000000
theorem srt_one : ∀ (L M : List Nat), Srt L → Srt M → (∀ m, m ∈ L ↔ m ∈ M) → L = M
  | [], [], _, _, _ => rfl
  | [], y :: M, _, _, h => absurd ((h y).2 (by simp)) (by simp)
  | x :: L, [], _, _, h => absurd ((h x).1 (by simp)) (by simp)
  | x :: L, y :: M, hL, hM, h => by
    have h1 := List.pairwise_cons.1 hL
    have h2 := List.pairwise_cons.1 hM
    have e : x = y := by
      rcases Nat.lt_trichotomy x y with h3 | h3 | h3
      · have := (h x).1 (by simp)
        rcases List.mem_cons.1 this with h4 | h4
        · exact h4
        · have := h2.1 x h4; omega
      · exact h3
      · have := (h y).2 (by simp)
        rcases List.mem_cons.1 this with h4 | h4
        · exact h4.symm
        · have := h1.1 y h4; omega
    subst e
    rw [srt_one L M h1.2 h2.2 (fun m => ⟨fun hm => by
      rcases List.mem_cons.1 ((h m).1 (List.mem_cons_of_mem _ hm)) with h4 | h4
      · rw [h4] at hm; exact absurd (h1.1 x hm) (Nat.lt_irrefl _)
      · exact h4, fun hm => by
      rcases List.mem_cons.1 ((h m).2 (List.mem_cons_of_mem _ hm)) with h4 | h4
      · rw [h4] at hm; exact absurd (h2.1 x hm) (Nat.lt_irrefl _)
      · exact h4⟩)]
/-- The list of all subgroups, ascending; empty for what is no group. -/
def SgList (l : List Int) (L : List Nat) : Prop := Srt L ∧ ∀ m, m ∈ L ↔ (grpB l = true ∧ IsSg l m)
theorem SgList.one {l : List Int} {L M : List Nat} (h : SgList l L) (g : SgList l M) : L = M := srt_one L M h.1 g.1 fun m => (h.2 m).trans (g.2 m).symm
/-- A list of subgroups. -/
def Snd (l : List Int) (L : List Nat) : Prop := ∀ m ∈ L, IsSg l m
theorem Snd.put {l : List Int} {L M : List Nat} {n : Nat} (h : Snd l L) (hn : IsSg l n) (hp : PutOf L n M) : Snd l M := fun m hm => by
  rcases (hp.2 m).1 hm with h1 | h1
  · exact h m h1
  · rw [h1]; exact hn
theorem PutOf.old {L M : List Nat} {n m : Nat} (hp : PutOf L n M) (h : m ∈ L) : m ∈ M := (hp.2 m).2 (.inl h)
theorem PutOf.new {L M : List Nat} {n : Nat} (hp : PutOf L n M) : n ∈ M := (hp.2 n).2 (.inr rfl)
theorem row_nil {w : World} {B g cap : Nat} (h : w.ownsRow B 3 1 (.slice (some ⟨g, 0, none⟩) 0 cap) 0 []) : RowL w B (.slice (some ⟨g, 0, none⟩) 0 cap) [] := ⟨⟨g, cap, rfl⟩, h, List.Pairwise.nil, fun x hx => by cases hx⟩
theorem RowL.le {w : World} {B B0 : Nat} {v : Value} {L : List Nat} (h : RowL w B v L) (hb : B0 ≤ B) : RowL w B0 v L := ⟨h.1, Joins.ownsRow_le h.2.1 hb, h.2.2⟩
theorem RowL.cell {w : World} {B : Nat} {v : Value} {L : List Nat} (h : RowL w B v L) : ∃ g cap, v = .slice (some ⟨g, 0, none⟩) L.length cap ∧ g < w.heap.size ∧ ∀ i, i < L.length → w.cell? ⟨g, i, none⟩ = some (.int .i64 ((L.getD i 0 : Nat) : Int)) := by
  obtain ⟨⟨g, cap, rfl⟩, ho, _, _⟩ := h
  refine ⟨g, cap, rfl, (ho.lt g rfl).2, fun i hi => ?_⟩
  have := ho.cellAt i (by omega)
  rw [this]
  simp [NL, hi]
/-- The cyclic subgroups of the elements below k. -/
def Cyc (l : List Int) (k : Nat) (L : List Nat) : Prop := ∀ m, m ∈ L ↔ ∃ y, y < k ∧ IsClo l (2 ^ y) m
theorem Cyc.step {l : List Int} {k c : Nat} {L M : List Nat} (h : Cyc l k L) (hc : IsClo l (2 ^ k) c) (hp : PutOf L c M) : Cyc l (k + 1) M := fun m => by
  rw [hp.2 m, h m]
  constructor
  · rintro (⟨y, h1, h2⟩ | h1)
    · exact ⟨y, by omega, h2⟩
    · rw [h1]; exact ⟨k, by omega, hc⟩
  · rintro ⟨y, h1, h2⟩
    by_cases hy : y = k
    · subst hy; exact .inr (h2.one hc)
    · exact .inl ⟨y, by omega, h2⟩
/-- The sums of two, so far: all of the first i, and of i itself with those below k. -/
def Two (l : List Int) (C : List Nat) (i k : Nat) (L : List Nat) : Prop := ∀ i' k', k' ≤ i' → (i' < i ∨ (i' = i ∧ k' < k)) → sumN l (C.getD i' 0) (C.getD k' 0) ∈ L
theorem Two.step {l : List Int} {C L M : List Nat} {i k n : Nat} (h : Two l C i k L) (e : sumN l (C.getD i 0) (C.getD k 0) = n) (hp : PutOf L n M) : Two l C i (k + 1) M := fun i' k' h1 h2 => by
  by_cases hk : i' = i ∧ k' = k
  · rw [hk.1, hk.2, e]; exact hp.new
  · exact hp.old (h i' k' h1 (by omega))
theorem Two.next {l : List Int} {C L : List Nat} {i k : Nat} (h : Two l C i k L) (hk : i < k) : Two l C (i + 1) 0 L := fun i' k' h1 h2 => h i' k' h1 (by omega)
/-- The sums of three, so far. -/
def Thr (l : List Int) (D C : List Nat) (i k : Nat) (L : List Nat) : Prop := (∀ m ∈ D, m ∈ L) ∧ ∀ i' k', k' < C.length → (i' < i ∨ (i' = i ∧ k' < k)) → sumN l (D.getD i' 0) (C.getD k' 0) ∈ L
theorem Thr.step {l : List Int} {D C L M : List Nat} {i k n : Nat} (h : Thr l D C i k L) (e : sumN l (D.getD i 0) (C.getD k 0) = n) (hp : PutOf L n M) : Thr l D C i (k + 1) M := ⟨fun m hm => hp.old (h.1 m hm), fun i' k' h1 h2 => by
  by_cases hk : i' = i ∧ k' = k
  · rw [hk.1, hk.2, e]; exact hp.new
  · exact hp.old (h.2 i' k' h1 (by omega))⟩
theorem Thr.next {l : List Int} {D C L : List Nat} {i k : Nat} (h : Thr l D C i k L) (hk : C.length ≤ k) : Thr l D C (i + 1) 0 L := ⟨h.1, fun i' k' h1 h2 => h.2 i' k' h1 (by omega)⟩
theorem all_sg {l : List Int} (hg : grpB l = true) {P : Nat} (hP : prodI l = (P : Int)) {C D L : List Nat} (hc : Cyc l P C) (h2 : Two l C C.length 0 D) (h3 : Thr l D C D.length 0 L) (hs : Snd l L) (hL : Srt L) : SgList l L := by
  refine ⟨hL, fun m => ⟨fun hm => ⟨hg, hs m hm⟩, fun hm => ?_⟩⟩
  obtain ⟨x, y, z, a, b, c, hx, hy, hz, ha, hb, hcc, e⟩ := sum3 hg hm.2
  obtain ⟨i, hi, ei⟩ := mem_getD ((hc a).2 ⟨x, by omega, ha⟩)
  obtain ⟨j, hj, ej⟩ := mem_getD ((hc b).2 ⟨y, by omega, hb⟩)
  obtain ⟨k, hk, ek⟩ := mem_getD ((hc c).2 ⟨z, by omega, hcc⟩)
  have hab : sumN l a b ∈ D := by
    rcases Nat.le_total j i with hji | hij
    · have := h2 i j hji (.inl hi)
      rwa [ei, ej] at this
    · have := h2 j i hij (.inl hj)
      rw [ei, ej] at this
      rwa [sumN_comm l (grp_pow hg ha.lt) (grp_pow hg hb.lt)]
  obtain ⟨p, hp, ep⟩ := mem_getD hab
  have := h3.2 p k hk (.inl hp)
  rw [ep, ek, e] at this
  exact this
set_option maxHeartbeats 8000000 in
theorem sSubs (w : World) (a : Option Addr) (l : List Int) (n cap : Nat) (L : List Nat) (hL : SgList l L) (hn : n = l.length) (hm : n ≤ 9223372036854775807) (hi : Ints w a l) :
    Calls Tryz.prog 108 #[.agg #[.slice a n cap]] w fun e w' => ∃ v, e = .returned (.tuple #[v, .bool (grpB l)]) ∧ RowL w' w.heap.size v L ∧ Below w.heap.size w w' := by
  have HL := Lib.hid hL
  have HI := Lib.hid (ints_alloc hi (.cells #[.slice a n cap] 26))
  have HN := Lib.hid hn
  have C1 := newC w (.slice a n cap) 26 (n := w.heap.size) rfl
  have HB := Lib.hid (Joins.below_alloc1 w (.cells #[.slice a n cap] 26))
  have HI2 := Lib.hid (ints_alloc HI.out (.cells #[] 3))
  have HB2 := Lib.hid (Joins.below_alloc1 (w.alloc (.cells #[.slice a n cap] 26)) (.cells #[] 3))
  have OW : Hid (RowL ((w.alloc (.cells #[.slice a n cap] 26)).alloc (.cells #[] 3)) (w.heap.size + 1) (.slice (some ⟨w.heap.size + 1, 0, none⟩) 0 0) []) := Lib.hid (row_nil (by simpa using World.ownsRow_lit (base := w.heap.size + 1) (e := 3) (size := 1) (w.alloc (.cells #[.slice a n cap] 26)) #[] 0 (by simp) (by simp [maxLen]) rfl))
  clear hi hn hL
  cases hg : grpB l with
  | false =>
    have HG := Lib.hid hg
    have HLN : Hid (L = []) := Lib.hid (SgList.one HL.out ⟨List.Pairwise.nil, fun m => ⟨(fun h => by cases h), (fun h => by rw [hg] at h; cases h.1)⟩⟩)
    clear hg
    go_enter Tryz.func108, Tryz.ntmps108
    go_wp2_with (go_at_call 71; refine (sIsGroup _ _ _ _ _ HN.out hm HI2.out).mono ?_; rw [HG.out]; rintro e w1 ⟨rfl, hb1⟩)
    go_ret2
    exact ⟨_, rfl, by rw [HLN.out]; exact (OW.out.on hb1).le (Nat.le_succ _), (HB.out.alloc (by simp) _).trans (hb1.mono (by simp; omega))⟩
  | true =>
    have HG := Lib.hid hg
    have hP := (ords_grp hg).prod
    obtain ⟨P, hPe⟩ : ∃ P : Nat, prodI l = (P : Int) := ⟨(prodI l).toNat, by omega⟩
    rw [hPe] at hP
    have HP := Lib.hid hPe
    have hP24 : P ≤ 24 := by omega
    clear hg hP hPe
    go_enter Tryz.func108, Tryz.ntmps108
    go_wp2_with (first
      | (go_at_call 44; refine (sOrder _ _ l _ _ HN.out HG.out HI1.out).mono ?_; rw [HP.out]; rintro e w2 ⟨rfl, hb2⟩; have T2 := Lib.hid (TA.out.trans (hb2.mono (by have := TA.out.size; simp at *; omega))); have RO2 := Lib.hid (ROA.out.on hb2); have RC2 := Lib.hid (RCA.out.on hb2); have c2 := keepC T2.out (by simp) C1; clear hb2)
      | (go_at_call 71; refine (sIsGroup _ _ _ _ _ HN.out hm HI2.out).mono ?_; rw [HG.out]; rintro e w1 ⟨rfl, hb1⟩; have T1 := Lib.hid (show Below (w.heap.size + 1) (w.alloc (.cells #[.slice a n cap] 26)) w1 from (HB2.out.mono (by simp)).trans (hb1.mono (by simp))); have R1 := Lib.hid (OW.out.on hb1); have c1 := keepC T1.out (by simp) C1; have TA := Lib.hid (T1.out.alloc (by have := T1.out.size; simp at *; omega) (.cells #[] 3)); have HI1 := Lib.hid (HI.out.below (by simp) TA.out); have ROA := Lib.hid (R1.out.on (Joins.below_alloc1 w1 (.cells #[] 3))); have RCA := Lib.hid (row_nil (World.ownsRow_lit (base := w.heap.size + 1) (e := 3) (size := 1) w1 #[] 0 (by have := T1.out.size; simp at *; omega) (by simp [maxLen]) rfl)); have c1a := keepC TA.out (by simp) C1; clear hb1))
    go_loopw [5, 7] (fun c x wr => ∃ (k : Nat) (Lc : List Nat), k ≤ P ∧ x = .int .i64 k ∧ RowL wr (w.heap.size + 1) c Lc ∧ Hid (Cyc l k Lc) ∧ Below w2.heap.size w2 wr) (fun _ x _ => P - (intOf x).toNat)
    case atStart => exact ⟨0, [], Nat.zero_le _, rfl, RC2.out, Lib.hid (fun m => ⟨(fun h => by cases h), (fun ⟨y, h, _⟩ => by omega)⟩), Below.refl _ _⟩
    case round =>
      obtain ⟨k, Lc, hk, rfl, hrow, HCY, hbel⟩ := hrel
      have c4 := keepC hbel (World.block_lt_of_cell? w2 _ c2) c2
      have T4 := Lib.hid (T2.out.trans (hbel.mono (by have := T2.out.size; simp at *; omega)))
      have HI4 := Lib.hid (HI.out.below (by simp) T4.out)
      have HRW := Lib.hid hrow
      have HBL := Lib.hid hbel
      by_cases hlt : k < P
      · have h2k : 2 ^ k < 2 ^ 24 := Nat.pow_lt_pow_right (by decide) (by omega)
        obtain ⟨cc, hcc⟩ := clo_ex HG.out h2k
        have HCC := Lib.hid hcc
        have HSHL : Hid (IntKind.i64.wrap (2 ^ k) = ((2 ^ k : Nat) : Int)) := Lib.hid (by rw [pow_nat]; generalize 2 ^ k = M at *; rw [IntKind.wrap_i64]; omega)
        have hshl := HSHL.out
        have HCLO := Lib.hid (fun (W : World) (hW : Ints W a l) => sClo W a l n cap (2 ^ k) cc h2k HN.out HG.out hcc hW)
        have hc24 : cc < 2 ^ 24 := grp_pow HG.out hcc.lt
        have HSZ : Hid (w.heap.size + 1 ≤ wr.heap.size) := Lib.hid (by have := T4.out.size; simpa using this)
        clear hrow hbel hcc
        go_wp2
        go_region_held3 (fun W => W.cell? ⟨w.heap.size, 0, none⟩ = some (.slice a n cap)) (first | exact c6 | exact c5 | exact c4)
          (first
          | (go_at_call 115; have hx_ := HRW5; clear hx_; refine (sPut _ (w.heap.size + 1) _ Lc cc (Nat.le_trans HSZ.out T5.out.size) HRW5.out hc24).mono ?_; rintro e w6 ⟨v6, L6, rfl, hp6, hr6, hb6⟩; have HP6 := Lib.hid hp6; have HR6 := Lib.hid hr6; have T6 := Lib.hid (T5.out.trans (hb6.mono T5.out.size)); have c6 := keepC T6.out (World.block_lt_of_cell? wr _ c4) c4; clear hp6 hr6)
          | (go_at_call 109; refine (HCLO.out _ (HI4.out.below rfl (Below.refl _ wr).drew)).mono ?_; rintro e w5 ⟨rfl, hb5⟩; have T5 := Lib.hid (show Below wr.heap.size wr w5 from (Below.refl wr.heap.size wr).drew.trans (hb5.mono (by simp))); have HRW5 := Lib.hid (HRW.out.on T5.out); have c5 := keepC T5.out (World.block_lt_of_cell? wr _ c4) c4; clear hb5))
        all_goals go_wp2
        go_roundw
        case rel => exact ⟨k + 1, L6, by omega, by go_num, HR6.out, Lib.hid (HCY.out.step HCC.out HP6.out), HBL.out.trans (T6.out.mono HBL.out.size)⟩
        case measure => simp [intOf]; omega
      · obtain rfl : k = P := by omega
        have RO3 := Lib.hid (RO2.out.on hbel)
        clear hrow hbel HBL
        go_wp2
        obtain ⟨wa, rfl⟩ : ∃ W, W = wr := ⟨wr, rfl⟩
        obtain ⟨gc, capc, hcv, hgl, hcel⟩ := HRW.out.cell
        subst hcv
        have hsrt := HRW.out.2.2
        have hm24 : Lc.length ≤ 16777216 := hsrt.1.len hsrt.2
        obtain ⟨m, HM⟩ : ∃ m, Hid (Lc.length = m) := ⟨_, Lib.hid rfl⟩
        have HCS : Hid (∀ i, i < m → IsSg l (Lc.getD i 0)) := Lib.hid (fun i hi => by
          obtain ⟨y, _, hy⟩ := (HCY.out _).1 (getD_mem (L := Lc) (j := i) (by rw [HM.out]; exact hi))
          exact hy.sg HG.out)
        rw [HM.out] at hcel hm24
        rw [HM.out]
        have HCE := Lib.hid hcel
        have HTW : Hid (Below (w.heap.size + 1) (w.alloc (.cells #[.slice a n cap] 26)) wa) := T4
        clear hcel hsrt
        go_wp2
        go_loopw [4, 8] (fun o i wb => ∃ (j : Nat) (Lo : List Nat), j ≤ m ∧ i = .int .i64 j ∧ RowL wb (w.heap.size + 1) o Lo ∧ Hid (Snd l Lo) ∧ Hid (Two l Lc j 0 Lo) ∧ Below wa.heap.size wa wb) (fun _ i _ => m - (intOf i).toNat)
        case atStart => exact ⟨0, [], Nat.zero_le _, rfl, RO3.out, Lib.hid (fun x h => by cases h), Lib.hid (fun i' k' h1 h2 => absurd h2 (by omega)), Below.refl _ _⟩
        case round =>
          obtain ⟨j, Lo, hj, rfl, hrow2, HSN, HTO, hbel2⟩ := hrel
          obtain ⟨wb, rfl⟩ : ∃ W, W = wr := ⟨wr, rfl⟩
          have HRO := Lib.hid hrow2
          have HBL2 := Lib.hid hbel2
          clear hrow2
          by_cases hjm : j < m
          · have hjm' : ((j : Nat) : Int) < ((m : Nat) : Int) := by omega
            go_wp2
            go_loopw [4, 9] (fun o k wr => ∃ (q : Nat) (Lp : List Nat), q ≤ j + 1 ∧ k = .int .i64 q ∧ RowL wr (w.heap.size + 1) o Lp ∧ Hid (Snd l Lp) ∧ Hid (Two l Lc j q Lp) ∧ Below wa.heap.size wa wr) (fun _ k _ => j + 1 - (intOf k).toNat)
            case atStart => exact ⟨0, Lo, by omega, rfl, HRO.out, HSN, HTO, HBL2.out⟩
            case round =>
              obtain ⟨q, Lp, hq, rfl, hrow3, HSN3, HTO3, hbel3⟩ := hrel
              have HRP3 := Lib.hid hrow3
              have HBL3 := Lib.hid hbel3
              have T3 := Lib.hid (HTW.out.trans (hbel3.mono (by have := HTW.out.size; simp at *; omega)))
              by_cases hqj : q ≤ j
              · have hqm : q < m := by omega
                have g7 := keepC hbel3 (World.block_lt_of_cell? wa _ c4) c4
                have x7 := keepC hbel3 hgl (HCE.out j hjm)
                have y7 := keepC hbel3 hgl (HCE.out q hqm)
                have hsx := HCS.out j hjm
                have hsy := HCS.out q hqm
                have HST := Lib.hid (fun (n : Nat) (M : List Nat) (e : sumN l (Lc.getD j 0) (Lc.getD q 0) = n) (hp : PutOf Lp n M) => HTO3.out.step e hp)
                obtain ⟨x, hx⟩ : ∃ x, Lc.getD j 0 = x := ⟨_, rfl⟩
                obtain ⟨y, hy⟩ : ∃ y, Lc.getD q 0 = y := ⟨_, rfl⟩
                rw [hx] at x7 hsx
                rw [hy] at y7 hsy
                rw [hx, hy] at HST
                obtain ⟨sm, hsm⟩ : ∃ s, sumN l x y = s := ⟨_, rfl⟩
                have HSG : Hid (IsSg l sm) := Lib.hid (by rw [← hsm]; exact sum_sg HG.out hsx hsy)
                have hs24 : sm < 2 ^ 24 := grp_pow HG.out HSG.out.1
                have HSUM := Lib.hid (fun (W : World) (hW : Ints W a l) => sSumL W a l n cap x y (grp_pow HG.out hsx.1) (grp_pow HG.out hsy.1) HN.out HG.out hW)
                rw [hsm] at HSUM
                have HSTN := Lib.hid (fun M hp => HST.out sm M hsm hp)
                have hqm' : ((q : Nat) : Int) < ((m : Nat) : Int) := by omega
                have hqj' : ((q : Nat) : Int) ≤ ((j : Nat) : Int) := by omega
                have HSZ3 : Hid (w.heap.size + 1 ≤ wr.heap.size) := Lib.hid (by have := T3.out.size; simpa using this)
                clear hsx hsy hx hy hsm HST hrow3 hbel3 hbel2
                go_wp2
                go_region_held3 (fun W => W.cell? ⟨w.heap.size, 0, none⟩ = some (.slice a n cap) ∧ W.cell? ⟨gc, j, none⟩ = some (.int .i64 ((x : Nat) : Int)) ∧ W.cell? ⟨gc, q, none⟩ = some (.int .i64 ((y : Nat) : Int))) (first | exact ⟨g9, x9, y9⟩ | exact ⟨g8, x8, y8⟩ | exact ⟨g7, x7, y7⟩)
                  (first
                    | (go_at_call 115; have hx_ := HPW3; clear hx_; refine (sPut _ (w.heap.size + 1) _ Lp sm (Nat.le_trans HSZ3.out TS3.out.size) HPW3.out hs24).mono ?_; rintro e wz ⟨vz, Lz, rfl, hpz, hrz, hbz⟩; have HPZ := Lib.hid hpz; have HRZ := Lib.hid hrz; have TZ := Lib.hid (TS3.out.trans (hbz.mono TS3.out.size)); have g9 := keepC TZ.out (World.block_lt_of_cell? wr _ g7) g7; have x9 := keepC TZ.out (World.block_lt_of_cell? wr _ x7) x7; have y9 := keepC TZ.out (World.block_lt_of_cell? wr _ y7) y7; clear hpz hrz)
                    | (go_at_call 43; refine (HSUM.out _ (HI.out.below (by simp) T3.out.drew)).mono ?_; rintro e ws ⟨rfl, hbs⟩; have TS3 := Lib.hid (show Below wr.heap.size wr ws from (Below.refl wr.heap.size wr).drew.trans (hbs.mono (by simp))); have HPW3 := Lib.hid (HRP3.out.on TS3.out); have g8 := keepC TS3.out (World.block_lt_of_cell? wr _ g7) g7; have x8 := keepC TS3.out (World.block_lt_of_cell? wr _ x7) x7; have y8 := keepC TS3.out (World.block_lt_of_cell? wr _ y7) y7; clear hbs))
                all_goals go_wp2
                go_roundw
                case rel => exact ⟨q + 1, Lz, by omega, by go_num, HRZ.out, Lib.hid (HSN3.out.put HSG.out HPZ.out), Lib.hid (HSTN.out _ HPZ.out), HBL3.out.trans (TZ.out.mono HBL3.out.size)⟩
                case measure => simp [intOf]; omega
              · have hqj' : ¬ ((q : Nat) : Int) ≤ ((j : Nat) : Int) := by omega
                have HTN := Lib.hid (HTO3.out.next (show j < q by omega))
                clear hrow3 hbel3 hbel2
                go_wp2
                go_roundw
                case rel => exact ⟨j + 1, Lp, by omega, by go_num, HRP3.out, HSN3, HTN, HBL3.out⟩
                case measure => simp [intOf]; omega
          · obtain rfl : j = m := by omega
            clear hbel2
            obtain ⟨gd, capd, hdv, hgd, hdel⟩ := HRO.out.cell
            subst hdv
            have hsrd := HRO.out.2.2
            have hd24 : Lo.length ≤ 16777216 := hsrd.1.len hsrd.2
            obtain ⟨d, HD⟩ : ∃ d, Hid (Lo.length = d) := ⟨_, Lib.hid rfl⟩
            have HDS : Hid (∀ i, i < d → IsSg l (Lo.getD i 0)) := Lib.hid (fun i hi => HSN.out _ (getD_mem (L := Lo) (j := i) (by rw [HD.out]; exact hi)))
            rw [HD.out] at hdel hd24
            rw [HD.out]
            have HDE := Lib.hid hdel
            have HTX := Lib.hid (HTW.out.trans (HBL2.out.mono (by have := HTW.out.size; simp at *; omega)))
            have HGL := Lib.hid hgl
            have c5 := keepC HBL2.out (World.block_lt_of_cell? wa _ c4) c4
            have HCE5 := Lib.hid (fun i hi => keepC HBL2.out HGL.out (HCE.out i hi))
            have HGL5 := Lib.hid (Nat.lt_of_lt_of_le HGL.out HBL2.out.size)
            have HROD : Hid (RowL wb (w.heap.size + 1) (.slice (some ⟨gd, 0, none⟩) d capd) Lo) := Lib.hid (by have := HRO.out; rw [HD.out] at this; exact this)
            clear hdel hsrd
            go_wp2
            go_loopw [4, 11] (fun o i wv => ∃ (u : Nat) (Lq : List Nat), u ≤ d ∧ i = .int .i64 u ∧ RowL wv (w.heap.size + 1) o Lq ∧ Hid (Snd l Lq) ∧ Hid (Thr l Lo Lc u 0 Lq) ∧ Below wb.heap.size wb wv) (fun _ i _ => d - (intOf i).toNat)
            case atStart => exact ⟨0, Lo, Nat.zero_le _, rfl, HROD.out, HSN, Lib.hid ⟨fun _ h => h, fun i' k' h1 h2 => absurd h2 (by omega)⟩, Below.refl _ _⟩
            case round =>
              obtain ⟨u, Lq, hu, rfl, hrow4, HSN4, HTH4, hbel4⟩ := hrel
              have HR4 := Lib.hid hrow4
              have HBL4 := Lib.hid hbel4
              clear hrow4
              by_cases hud : u < d
              · have hud' : ((u : Nat) : Int) < ((d : Nat) : Int) := by omega
                go_wp2
                go_loopw [4, 12] (fun o k wr => ∃ (q : Nat) (Lp : List Nat), q ≤ j ∧ k = .int .i64 q ∧ RowL wr (w.heap.size + 1) o Lp ∧ Hid (Snd l Lp) ∧ Hid (Thr l Lo Lc u q Lp) ∧ Below wb.heap.size wb wr) (fun _ k _ => j - (intOf k).toNat)
                case atStart => exact ⟨0, Lq, by omega, rfl, HR4.out, HSN4, HTH4, HBL4.out⟩
                case round =>
                  obtain ⟨q, Lp, hq, rfl, hrow3, HSN3, HTO3, hbel3⟩ := hrel
                  have HRP5 := Lib.hid hrow3
                  have HBL3 := Lib.hid hbel3
                  have T5 := Lib.hid (HTX.out.trans (hbel3.mono (by have := HTX.out.size; simp at *; omega)))
                  by_cases hqj : q < j
                  · have g7 := keepC hbel3 (World.block_lt_of_cell? wb _ c5) c5
                    have x7 := keepC hbel3 hgd (HDE.out u hud)
                    have y7 := keepC hbel3 HGL5.out (HCE5.out q hqj)
                    have hsx := HDS.out u hud
                    have hsy := HCS.out q hqj
                    have HST := Lib.hid (fun (n : Nat) (M : List Nat) (e : sumN l (Lo.getD u 0) (Lc.getD q 0) = n) (hp : PutOf Lp n M) => HTO3.out.step e hp)
                    obtain ⟨x, hx⟩ : ∃ x, Lo.getD u 0 = x := ⟨_, rfl⟩
                    obtain ⟨y, hy⟩ : ∃ y, Lc.getD q 0 = y := ⟨_, rfl⟩
                    rw [hx] at x7 hsx
                    rw [hy] at y7 hsy
                    rw [hx, hy] at HST
                    obtain ⟨sm, hsm⟩ : ∃ s, sumN l x y = s := ⟨_, rfl⟩
                    have HSG : Hid (IsSg l sm) := Lib.hid (by rw [← hsm]; exact sum_sg HG.out hsx hsy)
                    have hs24 : sm < 2 ^ 24 := grp_pow HG.out HSG.out.1
                    have HSUM := Lib.hid (fun (W : World) (hW : Ints W a l) => sSumL W a l n cap x y (grp_pow HG.out hsx.1) (grp_pow HG.out hsy.1) HN.out HG.out hW)
                    rw [hsm] at HSUM
                    have HSTN := Lib.hid (fun M hp => HST.out sm M hsm hp)
                    have hqm' : ((q : Nat) : Int) < ((j : Nat) : Int) := by omega
                    have HSZ5 : Hid (w.heap.size + 1 ≤ wr.heap.size) := Lib.hid (by have := T5.out.size; simpa using this)
                    clear hsx hsy hx hy hsm HST hrow3 hbel3 hbel4
                    go_wp2
                    go_region_held3 (fun W => W.cell? ⟨w.heap.size, 0, none⟩ = some (.slice a n cap) ∧ W.cell? ⟨gd, u, none⟩ = some (.int .i64 ((x : Nat) : Int)) ∧ W.cell? ⟨gc, q, none⟩ = some (.int .i64 ((y : Nat) : Int))) (first | exact ⟨g9, x9, y9⟩ | exact ⟨g8, x8, y8⟩ | exact ⟨g7, x7, y7⟩)
                      (first
                        | (go_at_call 115; have hx_ := HPW5; clear hx_; refine (sPut _ (w.heap.size + 1) _ Lp sm (Nat.le_trans HSZ5.out TS5.out.size) HPW5.out hs24).mono ?_; rintro e wz ⟨vz, Lz, rfl, hpz, hrz, hbz⟩; have HPZ := Lib.hid hpz; have HRZ := Lib.hid hrz; have TZ := Lib.hid (TS5.out.trans (hbz.mono TS5.out.size)); have g9 := keepC TZ.out (World.block_lt_of_cell? wr _ g7) g7; have x9 := keepC TZ.out (World.block_lt_of_cell? wr _ x7) x7; have y9 := keepC TZ.out (World.block_lt_of_cell? wr _ y7) y7; clear hpz hrz)
                        | (go_at_call 43; refine (HSUM.out _ (HI.out.below (by simp) T5.out.drew)).mono ?_; rintro e ws ⟨rfl, hbs⟩; have TS5 := Lib.hid (show Below wr.heap.size wr ws from (Below.refl wr.heap.size wr).drew.trans (hbs.mono (by simp))); have HPW5 := Lib.hid (HRP5.out.on TS5.out); have g8 := keepC TS5.out (World.block_lt_of_cell? wr _ g7) g7; have x8 := keepC TS5.out (World.block_lt_of_cell? wr _ x7) x7; have y8 := keepC TS5.out (World.block_lt_of_cell? wr _ y7) y7; clear hbs))
                    all_goals go_wp2
                    go_roundw
                    case rel => exact ⟨q + 1, Lz, by omega, by go_num, HRZ.out, Lib.hid (HSN3.out.put HSG.out HPZ.out), Lib.hid (HSTN.out _ HPZ.out), HBL3.out.trans (TZ.out.mono HBL3.out.size)⟩
                    case measure => simp [intOf]; omega
                  · obtain rfl : q = j := by omega
                    have HTN := Lib.hid (HTO3.out.next (Nat.le_of_eq HM.out))
                    clear hrow3 hbel3 hbel4
                    go_wp2
                    go_roundw
                    case rel => exact ⟨u + 1, Lp, by omega, by go_num, HRP5.out, HSN3, HTN, HBL3.out⟩
                    case measure => simp [intOf]; omega
              · obtain rfl : u = d := by omega
                have HF : Hid (SgList l Lq) := Lib.hid (all_sg HG.out HP.out HCY.out (by rw [HM.out]; exact HTO.out) (by rw [HD.out]; exact HTH4.out) HSN4.out HR4.out.2.2.1)
                have HEQ := Lib.hid (HF.out.one HL.out)
                have T7 := Lib.hid (HTX.out.trans (hbel4.mono (by have := HTX.out.size; simp at *; omega)))
                clear hbel4
                go_wp2
                go_ret2
                exact ⟨_, rfl, by rw [← HEQ.out]; exact HR4.out.le (Nat.le_succ _), (HB.out.mono (Nat.le_refl _)).trans (T7.out.mono (by omega))⟩
end Go.Proofs.YtaacofbmbpkeoaaGreatDoor
