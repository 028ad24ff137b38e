/- Merged: CCSpec EachL Round. -/
import Derived.Test.YthlpjiibjlaebaaGreatDoorChaSpec
import Derived.Test.YthlpjiibjlaebaaGreatDoorChaSpec3
import Derived.OwnWalk
import Derived.Deep.RegionWith
import Derived.Test.YthlpjiibjlaebaaGreatDoorMGAH
import Derived.Deep.RegionHeld3
namespace Go.Proofs.YthlpjiibjlaebaaGreatDoor
open Go.RowKit
set_option maxRecDepth 1000000
/-- How many elements of a list have the value e. -/
def cntZ (l : List Int) (k : Int) (L : List Nat) (e : Nat) : Int := ((L.countP (fun x : Nat => chN l k (x : Int) == (e : Int)) : Nat) : Int)
theorem cntZ_nil (l : List Int) (k : Int) (e : Nat) : cntZ l k [] e = 0 := rfl
theorem cntZ_snoc (l : List Int) (k : Int) (L : List Nat) (y v e : Nat) (hv : chN l k (y : Int) = (v : Int)) : cntZ l k (L ++ [y]) e = cntZ l k L e + (if v = e then 1 else 0) := by
  unfold cntZ
  rw [List.countP_append, List.countP_singleton, hv]
  by_cases h : v = e
  · subst h; simp
  · have : ((v : Int) == (e : Int)) = false := by simp; omega
    simp [this, h]
theorem cntZ_bnd (l : List Int) (k : Int) (L : List Nat) (e : Nat) : 0 ≤ cntZ l k L e ∧ cntZ l k L e ≤ (L.length : Int) := by
  unfold cntZ
  have := List.countP_le_length (p := fun x : Nat => chN l k (x : Int) == (e : Int)) (l := L)
  omega
theorem take_snoc7 (s k : Nat) (h : k < (bitsN s).length) : (bitsN s).take (k + 1) = (bitsN s).take k ++ [(bitsN s).getD k 0] := by
  rw [List.take_add_one, List.getElem?_eq_getElem h]
  simp [List.getD, List.getElem?_eq_getElem h]
def ccB (l : List Int) (s k : Int) : Bool := isS l s && isE l k
def ccE (l : List Int) (s k : Int) : List Int := if ccB l s k = true then rowZ (cntZ l k (bitsN s.toNat)) (expN l).toNat else []
/-- A row that the call made, as it is read. -/
theorem own_read7 {w : World} {B : Nat} {v : Value} {l : List Int} (h : w.ownsRow B 3 1 v l.length (l.map (Value.int .i64))) :
    ∃ a cap, v = .slice a l.length cap ∧ (l = [] ∨ ∃ b off, a = some ⟨b, off, none⟩ ∧ B ≤ b ∧ b < w.heap.size ∧ ∀ i, i < l.length → w.cell? ⟨b, off + i, none⟩ = some (.int .i64 (l.getD i 0))) := by
  obtain ⟨a, cap, rfl⟩ := own_slice h
  refine ⟨a, cap, rfl, ?_⟩
  rcases own_ints h with h0 | ⟨b, off, rfl, hb, hc⟩
  · exact .inl h0
  · exact .inr ⟨b, off, rfl, (h.lt b (by simp [Value.ownBlock])).1, hb, hc⟩
set_option maxHeartbeats 4000000 in
theorem sCC (w : World) (a : Option Addr) (l : List Int) (n cap : Nat) (s k : Int) (hn : n = l.length) (hm : n ≤ 9223372036854775807) (hi : Ints w a l) :
    Calls Tryz.prog 28 #[.agg #[.slice a n cap], .int .i64 s, .int .i64 k] w fun e w' => ∃ v, e = .returned v ∧ w'.ownsRow w.heap.size 3 1 v (ccE l s k).length ((ccE l s k).map (Value.int .i64)) ∧ Below w.heap.size w w' := by
  have HI := Lib.hid (ints_alloc hi (.cells #[.slice a n cap] 26))
  have HN := Lib.hid hn
  have C1 := newC w (.slice a n cap) 26 (n := w.heap.size) rfl
  have HB := Lib.hid (Joins.below_alloc1 w (.cells #[.slice a n cap] 26))
  have T0 := Lib.hid (Below.refl (w.alloc (.cells #[.slice a n cap] 26)).heap.size (w.alloc (.cells #[.slice a n cap] 26)))
  clear hi hn
  cases hs : isS l s with
  | false =>
    have HS := Lib.hid hs
    rw [show ccE l s k = [] by unfold ccE ccB; rw [hs]; rfl]
    clear hs
    go_enter Tryz.func28, Tryz.ntmps28
    go_wp2_with (first
      | (go_at_call 48; refine (sIsSet _ _ _ _ _ _ HN.out hm (HI.out.below rfl T0.out)).mono ?_; rw [HS.out]; rintro e w1 ⟨rfl, hb1⟩; have T1 := Lib.hid (T0.out.trans (hb1.mono T0.out.size)); have c1 := keepC T1.out (by simp) C1))
    go_ret
    exact ⟨_, rfl, by simpa using World.ownsRow_lit (base := w.heap.size) (e := 3) (size := 1) w1 #[] 0 (Nat.le_trans (by simp) T1.out.size) (by simp [maxLen]) rfl, HB.out.trans ((T1.out.mono (by simp)).alloc (Nat.le_trans (by simp) T1.out.size) _)⟩
  | true =>
    have HS := Lib.hid hs
    cases hk : isE l k with
    | false =>
      have HK : Hid (false = isE l k) := Lib.hid hk.symm
      rw [show ccE l s k = [] by unfold ccE ccB; rw [hs, hk]; rfl]
      clear hs hk
      go_enter Tryz.func28, Tryz.ntmps28
      go_wp2_with (first
        | (go_at_call 40; refine (sIs _ _ _ _ _ _ _ HK.out HN.out hm (HI.out.below rfl T1.out)).mono ?_; rintro e w2 ⟨rfl, hb2⟩; have T2 := Lib.hid (T1.out.trans (hb2.mono T1.out.size)); have c2 := keepC T2.out (by simp) C1)
        | (go_at_call 48; refine (sIsSet _ _ _ _ _ _ HN.out hm (HI.out.below rfl T0.out)).mono ?_; rw [HS.out]; rintro e w1 ⟨rfl, hb1⟩; have T1 := Lib.hid (T0.out.trans (hb1.mono T0.out.size)); have c1 := keepC T1.out (by simp) C1))
      go_ret
      exact ⟨_, rfl, by simpa using World.ownsRow_lit (base := w.heap.size) (e := 3) (size := 1) w2 #[] 0 (Nat.le_trans (by simp) T2.out.size) (by simp [maxLen]) rfl, HB.out.trans ((T2.out.mono (by simp)).alloc (Nat.le_trans (by simp) T2.out.size) _)⟩
    | true =>
      have HK : Hid (true = isE l k) := Lib.hid hk.symm
      obtain ⟨i0, hi0, hz0, hz1, hz2⟩ := info_parts intInfo
      obtain ⟨hg, k0, k1, _⟩ := isE_23 hk
      have HRES : Hid (ccE l s k = rowZ (cntZ l k (bitsN s.toNat)) (expN l).toNat) := Lib.hid (by unfold ccE ccB; rw [hs, hk]; rfl)
      obtain ⟨_, s, rfl, hsn, hs24⟩ := isS_true hs
      rw [HRES.out, rowZ_len, Int.toNat_natCast]
      have he := expN_le hg
      obtain ⟨E, HE⟩ : ∃ E : Nat, Hid (expN l = (E : Int)) := ⟨(expN l).toNat, Lib.hid (by omega)⟩
      rw [HE.out] at he
      have HET : Hid ((expN l).toNat = E) := Lib.hid (by have := HE.out; omega)
      rw [HET.out]
      have HEE : Hid (expE l = (E : Int)) := Lib.hid (by rw [expE_grp hg, HE.out])
      have HCB := Lib.hid (fun x => chN_bnd (ords_grp hg) k x)
      rw [HE.out] at HCB
      have HG := Lib.hid hg
      have HA := Lib.hid hs24
      have hE1 : 1 ≤ E := by omega
      have hE24 : E ≤ 24 := by omega
      have HLB := Lib.hid (bits_le s)
      clear hs hk hg hsn hs24 he
      go_enter Tryz.func28, Tryz.ntmps28
      go_wp2_with (first
        | (go_at_call 54; refine (sL3I _ s HA.out).mono ?_; rintro e w6 ⟨v6, rfl, ho6, hb6⟩; obtain ⟨a6, cap6, rfl, hI6⟩ := own_read7 ho6; have I6 := Lib.hid hI6; have T6 := Lib.hid (T5.out.trans (hb6.mono T5.out.size)); have c6 := keepC T6.out (by simp) C1; have HB6 := Lib.hid hb6; clear ho6 hI6)
        | (at_make; refine wpList_make_full _ rfl _ _ 24 rfl w.heap.size 3 i0 (.int .i64 0) 1 Tryz.underlying24 hi0 hz0 hz1 .i64 .i64 _ _ E rfl rfl (by rfl) (by rfl) (by rw [hz2]; omega) (by unfold maxLen; omega) (Nat.le_trans (by simp) T3.out.size) ?_; intro w5 hown hgrow; have T5 := Lib.hid (T3.out.grown hgrow T3.out.size (fun q hq => by cases hq)); have O5 := Lib.hid hown; have L5 := Lib.hid hown.lt; have c5 := keepC T5.out (by simp) C1)
        | (go_at_call 10; refine (sExp _ _ l _ _ HN.out hm (HI.out.below rfl T2.out)).mono ?_; rw [HEE.out]; rintro e w3 ⟨rfl, hb3⟩; have T3 := Lib.hid (T2.out.trans (hb3.mono T2.out.size)); have c3 := keepC T3.out (by simp) C1)
        | (go_at_call 40; refine (sIs _ _ _ _ _ _ _ HK.out HN.out hm (HI.out.below rfl T1.out)).mono ?_; rintro e w2 ⟨rfl, hb2⟩; have T2 := Lib.hid (T1.out.trans (hb2.mono T1.out.size)); have c2 := keepC T2.out (by simp) C1)
        | (go_at_call 48; refine (sIsSet _ _ _ _ _ _ HN.out hm (HI.out.below rfl T0.out)).mono ?_; rw [HS.out]; rintro e w1 ⟨rfl, hb1⟩; have T1 := Lib.hid (T0.out.trans (hb1.mono T0.out.size)); have c1 := keepC T1.out (by simp) C1))
      have hg5 : w.heap.size + 1 ≤ w3.heap.size := Nat.le_trans (by simp) T3.out.size
      have hrow : w6.ownsRow w.heap.size 3 1 (.slice (some ⟨w3.heap.size, 0, none⟩) E E) E (rowV (cntZ l k ((bitsN s).take 0)) E) := by
        have e : rowV (cntZ l k ((bitsN s).take 0)) E = (madeCells #[Value.int .i64 0] E).toList := by rw [← rowV_zero E]; rfl
        rw [e]
        have := owns_below O5.out HB6.out
        rw [Nat.mul_one] at this
        exact this
      have HROW := Lib.hid hrow
      clear hrow
      obtain ⟨g5, HGG⟩ : ∃ g5, Hid (w3.heap.size = g5) := ⟨_, Lib.hid rfl⟩
      have HG5b : Hid (w.heap.size + 1 ≤ g5) := Lib.hid (by rw [← HGG.out]; exact hg5)
      have HG56 : Hid (g5 < w5.heap.size) := Lib.hid (by rw [← HGG.out]; exact (L5.out _ rfl).2)
      rw [HGG.out] at HROW
      rw [HGG.out]
      clear hg5
      go_loopw [9] (fun i wr => ∃ j : Nat, j ≤ (bitsN s).length ∧ i = .int .i64 j ∧ wr.ownsRow w.heap.size 3 1 (.slice (some ⟨g5, 0, none⟩) E E) E (rowV (cntZ l k ((bitsN s).take j)) E) ∧ w6.grownBy wr (some g5)) (fun i _ => (bitsN s).length - (intOf i).toNat)
      case atStart => exact ⟨0, Nat.zero_le _, rfl, HROW.out, World.grownBy.refl _ _⟩
      case round =>
        obtain ⟨j, hj, rfl, hr, hgr⟩ := hrel
        have HLN := Lib.hid (LI_len s)
        have hlen : ((LI s).length : Int) = ((bitsN s).length : Int) := by rw [HLN.out]
        have HR := Lib.hid hr
        have HGR := Lib.hid hgr
        clear hr
        by_cases hlt : j < (bitsN s).length
        · have hkl : j < (LI s).length := by rw [HLN.out]; exact hlt
          rcases I6.out with h0 | ⟨b, off, h1, hbg, hbl, hc⟩
          · rw [h0] at hkl; simp at hkl
          · subst h1
            have HBNE : Hid (b ≠ g5) := Lib.hid (by have := HG56.out; omega)
            have r1 := cell_grown7 hgr hbl HBNE.out (hc j hkl)
            have hx23 := bits_at s j hlt
            have HTN := Lib.hid (take_snoc7 s j hlt)
            rw [LI_at s j hlt] at r1
            obtain ⟨x, HX⟩ : ∃ y, Hid ((bitsN s).getD j 0 = y) := ⟨_, Lib.hid rfl⟩
            rw [HX.out] at HTN hx23 r1
            obtain ⟨v1, v2⟩ := HCB.out (x : Int)
            obtain ⟨v, hv⟩ : ∃ v : Nat, chN l k (x : Int) = (v : Int) := ⟨(chN l k (x : Int)).toNat, by omega⟩
            have HVV := Lib.hid hv
            rw [hv] at v2
            have hvE : v < E := by omega
            obtain ⟨G, HF⟩ : ∃ G, Hid (cntZ l k ((bitsN s).take j) = G) := ⟨_, Lib.hid rfl⟩
            have HFN : Hid ((fun z => G z + (if v = z then 1 else 0)) = cntZ l k ((bitsN s).take (j + 1))) := Lib.hid (by
              funext z
              rw [HTN.out, cntZ_snoc l k _ x v z HVV.out, ← HF.out])
            have hFb : 0 ≤ G v ∧ G v ≤ 24 := by
              rw [← HF.out]
              have h1 := cntZ_bnd l k ((bitsN s).take j) v
              have h2 := List.length_take_le j (bitsN s)
              have h3 := HLB.out
              rw [List.length_take] at h1
              omega
            rw [HF.out] at HR
            obtain ⟨fv, HFV⟩ : ∃ fv, Hid (G v = fv) := ⟨_, Lib.hid rfl⟩
            rw [HFV.out] at hFb
            obtain ⟨f1, f2⟩ := hFb
            have hx0 : (0 : Int) ≤ (x : Int) := by omega
            have hx23' : (x : Int) ≤ 23 := by omega
            have hgb : w.heap.size ≠ g5 := by have := HG5b.out; omega
            have hw6 : w.heap.size < w6.heap.size := World.block_lt_of_cell? w6 _ c6
            have c8 := cell_grown7 hgr hw6 hgb c6
            have TI := Lib.hid ((T6.out.grown HGR.out T6.out.size (fun q hq => by cases hq; simp only [World.size_alloc]; exact HG5b.out)).drew)
            have HRD := Lib.hid HR.out.drew
            have hvi : ((v : Nat) : Int) < ((E : Nat) : Int) := by omega
            have HJ1 : Hid (j + 1 ≤ (bitsN s).length) := Lib.hid hlt
            have hj23 : (j : Int) ≤ 23 := by have := HLB.out; omega
            clear hgr hc hkl hv v1 hgb hw6
            go_wp2
            go_region_with (first | (go_at_call 41; refine (sVal7 _ _ l _ _ k (x : Int) k0 k1 hx0 hx23' HN.out hm HG.out (HI.out.below rfl TI.out)).mono ?_; rw [HVV.out]; rintro e w9 ⟨rfl, hb9⟩; have HR9 := Lib.hid (owns_below HRD.out hb9); have hfr := HR9.out.frozenAt v; have hcell := (HR9.out.cellAt v (by omega)).trans (rowV_at G E v hvE); rw [HFV.out] at hcell; have hst := (HR9.out.stored v (.int .i64 (G v + 1))).1; rw [rowV_set G E v hvE, HFN.out, HFV.out] at hst; have HST := Lib.hid hst; have HB9 := Lib.hid hb9; clear hst hb9))
            all_goals
              go_wp2
              go_roundw
              case rel => exact ⟨j + 1, HJ1.out, by go_num, by first | exact HST.out | simpa using HST.out, grownG_set (grownG_trans (grownG_trans HGR.out (below_grown (Below.refl _ _).drew _)) (below_grown HB9.out _)) v _⟩
              case measure => have := HJ1.out; simp [intOf]; omega
        · obtain rfl : j = (bitsN s).length := by omega
          go_wp2
          go_ret
          refine ⟨_, rfl, ?_, HB.out.trans ((T6.out.grown HGR.out T6.out.size (fun q hq => by cases hq; simp only [World.size_alloc]; exact HG5b.out)).mono (by simp))⟩
          have := HR.out
          rw [List.take_length] at this
          exact this
end Go.Proofs.YthlpjiibjlaebaaGreatDoor

namespace Go.Proofs.YthlpjiibjlaebaaGreatDoor
open Go.RowKit Go.Shelf
set_option maxRecDepth 1000000
/-- How the body of a round ends: it goes on; what is no cells lies as it lay; the invariant holds of one element more. -/
def eachPost (I : List Nat → World → Prop) (xs : List Nat) (W : World) : Exit → Act → World → Prop := fun e _ W' => e = .normal ∧ KeepsOthers W W' ∧ I xs W'
set_option maxHeartbeats 1000000 in
theorem each_loopB {n : Nat} {g : Operand} {p : Tmp} {assign body : Code} {Q : Exit → Act → World → Prop} {a : Act} {w : World}
    (s : Nat) (hs : s < 2 ^ 24) (hg : a.eval g = .func (.func 79) #[.int .u64 s] #[]) (B : Nat)
    (I : List Nat → World → Prop) (hI : OwnFrom w.heap.size I) (hT : ∀ pre W, I pre W → TabZ B W) (h0 : I [] w) (a₁ : Nat → Act)
    (hassign : ∀ (l x : Nat) (W : World) (K : Act → World → Prop), K (a₁ x) W →
      assign.wpIn (Fence.wide.inRound l) (n - 1 - 1) Tryz.prog (Exit.then K (fun _ _ _ => False)) { tmps := a.tmps.setIfInBounds p (.int .i64 (x : Nat)), defers := [] } W)
    (hbody : ∀ (l : Nat) (pre : List Nat) (x : Nat) (W : World), x < 24 → s.testBit x = true → pre.length < 24 → I pre W →
      body.wpIn (Fence.wide.inRound l) (n - 1 - 1) Tryz.prog (eachPost I (pre ++ [x]) W) (a₁ x) W)
    (hdone : ∀ (D : Nat) (W : World), w.heap.size ≤ D → I (bitsN s) W → W.heap[D]? = some (.deferred (some [])) →
      Q .normal { a with defers := { target := .collected D, args := #[] } :: a.defers } W) :
    (Code.rangeFunc g #[p] assign body).wpIn Fence.wide n Tryz.prog Q a w := by
  refine wpIn_rangeFunc ?_
  intro fn hfn
  -- the statement's own block of deferred calls, and the loop's record behind it
  generalize hD : w.heap.size = D at *
  let lp : LoopState → Loop := fun st => { state := st, pending := none, fn := fn, tmps := a.tmps, params := #[p], assign := assign, body := body, defers := D }
  have elp : ∀ st, lp st = { state := st, pending := none, fn := fn, tmps := a.tmps, params := #[p], assign := assign, body := body, defers := D } := fun _ => rfl
  let V := (w.alloc (.deferred (some []))).alloc (.loop (lp .ready))
  have vL : V.heap[D + 1]? = some (.loop (lp .ready)) := by
    have h := World.alloc_heap_new (w.alloc (.deferred (some []))) (.loop (lp .ready))
    rwa [World.size_alloc, hD] at h
  have vD : V.heap[D]? = some (.deferred (some [])) := by
    have h := World.alloc_heap_new w (.deferred (some []))
    rw [hD] at h
    exact (Below.heap_alloc _ _ _ (by simp; omega)).trans h
  have vI : I [] V := hI.alloc _ (hI.alloc _ h0)
  have henter : (Instr.enterLoop fn a.tmps #[p] assign body Fence.wide.round).run Tryz.prog w = .ok (D + 1, [{ target := .collected D, args := #[] }]) V := by
    have h := run_enterLoop_outer (P := Tryz.prog) (w := w) fn a.tmps #[p] assign body
    rw [hD] at h
    exact h
  have eg := enters_of (P := Tryz.prog) Tryz.func79 (by kernel_rfl) rfl
  refine ⟨D + 1, [{ target := .collected D, args := #[] }], V, { target := .fn (.func 79) #[], args := #[.int .u64 s, .func (.yield (D + 1)) #[] #[]] }, V, 79,
    #[.int .u64 s, .func (.yield (D + 1)) #[] #[]], V, henter, ?_, fun _ _ => trivial, ?_, fun h => (by simp [Fence.wide] at h), ?_⟩
  · simp only [resolve, hg]
    simp [go_sem]
  · simp [invoke, go_sem, eg _ _]
  -- what holds between two rounds: the caller's invariant, the record ready, the block as it was laid
  refine (each_in (n - 1) s hs B (D + 1) (fun pre W => I pre W ∧ W.heap[D + 1]? = some (.loop (lp .ready)) ∧ W.heap[D]? = some (.deferred (some [])))
    (fun pre W h => hT pre W h.1) ?round V (And.intro vI (And.intro vL vD))).mono ?done
  case round =>
    rintro pre x W ⟨hi, hl, hk⟩ hx hbt hpl
    have hin : D + 1 < W.heap.size := (Array.getElem?_eq_some_iff.1 hl).1
    have hy := run_yield (P := Tryz.prog) (args := #[Value.int .i64 (x : Nat)]) hl (by rw [elp]; rfl)
    have hy2 : (Instr.yield (D + 1) #[Value.int .i64 (x : Nat)]).run Tryz.prog W = .ok (.round (D + 1) fn (a.tmps.setIfInBounds p (.int .i64 (x : Nat))) assign body) W := by
      rw [hy, elp]; simp
    refine ⟨fn, _, assign, body, hy2, roundIn_of_wpIn hfn ?_⟩
    refine hassign (D + 1) x W _ ⟨_, run_beginRound hl (by rw [elp]), ?_⟩
    -- the record is busy: the body
    obtain ⟨U, hU⟩ : ∃ U, W.putObj (D + 1) (.loop { lp .ready with state := .busy }) = U := ⟨_, rfl⟩
    have uI : I pre U := by rw [← hU]; exact hI.putObj _ hi (by omega) hl rfl
    have uL : U.heap[D + 1]? = some (.loop { lp .ready with state := .busy }) := by rw [← hU]; exact World.putObj_heap_same hin
    have uD : U.heap[D]? = some (.deferred (some [])) := by rw [← hU]; exact (World.putObj_heap_other (by omega)).trans hk
    rw [hU]
    refine wpIn_mono (hbody _ pre x U hx hbt hpl uI) ?_
    rintro e a3 W3 ⟨rfl, hkeep, hi3⟩
    have l3 := hkeep.same _ _ uL rfl
    have d3 := hkeep.same _ _ uD rfl
    have hend := run_endRound (P := Tryz.prog) none l3
    have hin3 : D + 1 < W3.heap.size := (Array.getElem?_eq_some_iff.1 l3).1
    refine ⟨_, _, hend, rfl, hI.putObj _ hi3 (by omega) l3 rfl, ?_, (World.putObj_heap_other (by omega)).trans d3⟩
    exact World.putObj_heap_same hin3
  case done =>
    rintro e W2 ⟨⟨v, rfl⟩, hi, hl, hk⟩
    have hend := run_endLoop (P := Tryz.prog) hl (by rw [elp]; simp)
    exact ⟨none, _, hend, hdone D _ (by omega) (hI.putObj _ hi (by omega) hl rfl) ((World.putObj_heap_other (by omega)).trans hk)⟩
theorem each_loop {n : Nat} {g : Operand} {p : Tmp} {assign body : Code} {Q : Exit → Act → World → Prop} {a : Act} {w : World}
    (s : Nat) (hs : s < 2 ^ 24) (hg : a.eval g = .func (.func 79) #[.int .u64 s] #[]) (B : Nat)
    (I : List Nat → World → Prop) (hI : OwnFrom w.heap.size I) (hT : ∀ pre W, I pre W → TabZ B W) (h0 : I [] w) (a₁ : Nat → Act)
    (hassign : ∀ (l x : Nat) (W : World) (K : Act → World → Prop), K (a₁ x) W →
      assign.wpIn (Fence.wide.inRound l) (n - 1 - 1) Tryz.prog (Exit.then K (fun _ _ _ => False)) { tmps := a.tmps.setIfInBounds p (.int .i64 (x : Nat)), defers := [] } W)
    (hbody : ∀ (l : Nat) (pre : List Nat) (x : Nat) (W : World), x < 24 → pre.length < 24 → I pre W →
      body.wpIn (Fence.wide.inRound l) (n - 1 - 1) Tryz.prog (eachPost I (pre ++ [x]) W) (a₁ x) W)
    (hdone : ∀ (D : Nat) (W : World), w.heap.size ≤ D → I (bitsN s) W → W.heap[D]? = some (.deferred (some [])) →
      Q .normal { a with defers := { target := .collected D, args := #[] } :: a.defers } W) :
    (Code.rangeFunc g #[p] assign body).wpIn Fence.wide n Tryz.prog Q a w :=
  each_loopB s hs hg B I hI hT h0 a₁ hassign (fun l pre x W hx _ hpl hi => hbody l pre x W hx hpl hi) hdone
theorem each_loopP {n : Nat} {g : Operand} {p : Tmp} {assign body : Code} {Q : Exit → Act → World → Prop} {a : Act} {w : World}
    (s : Nat) (hs : s < 2 ^ 24) (hg : a.eval g = .func (.func 79) #[.int .u64 s] #[]) (B : Nat)
    (I : List Nat → World → Prop) (hI : OwnFrom w.heap.size I) (hT : ∀ pre W, I pre W → TabZ B W) (h0 : I [] w) (a₁ : Nat → Act)
    (hassign : ∀ (l x : Nat) (W : World) (K : Act → World → Prop), K (a₁ x) W →
      assign.wpIn (Fence.wide.inRound l) (n - 1 - 1) Tryz.prog (Exit.then K (fun _ _ _ => False)) { tmps := a.tmps.setIfInBounds p (.int .i64 (x : Nat)), defers := [] } W)
    (hbody : ∀ (l : Nat) (pre : List Nat) (x : Nat) (W : World), (∀ z ∈ pre, s.testBit z = true) → s.testBit x = true → pre.length < 24 → I pre W →
      body.wpIn (Fence.wide.inRound l) (n - 1 - 1) Tryz.prog (eachPost I (pre ++ [x]) W) (a₁ x) W)
    (hdone : ∀ (D : Nat) (W : World), w.heap.size ≤ D → I (bitsN s) W → W.heap[D]? = some (.deferred (some [])) →
      Q .normal { a with defers := { target := .collected D, args := #[] } :: a.defers } W) :
    (Code.rangeFunc g #[p] assign body).wpIn Fence.wide n Tryz.prog Q a w :=
  each_loopB s hs hg B (fun pre W => I pre W ∧ ∀ z ∈ pre, s.testBit z = true) (OwnFrom.and hI (fun _ _ _ _ hs _ _ => hs)) (fun pre W h => hT pre W h.1) ⟨h0, fun z hz => by cases hz⟩ a₁ hassign
    (fun l pre x W _ hb hpl hi => wpIn_mono (hbody l pre x W hi.2 hb hpl hi.1) (fun _ _ _ ⟨h1, h2, h3⟩ => ⟨h1, h2, h3, fun z hz => by
      rcases List.mem_append.1 hz with h | h
      · exact hi.2 z h
      · rw [List.mem_singleton.1 h]; exact hb⟩)) (fun D W hD hi hk => hdone D W hD hi.1 hk)
end Go.Proofs.YthlpjiibjlaebaaGreatDoor

namespace Go.Proofs.YthlpjiibjlaebaaGreatDoor
open Go.RowKit Go.Shelf
section
variable {P : Program} {Q : Exit → Act → World → Prop} {l n : Nat}
theorem oper_round {o : Oper} {a : Act} {w : World} {K K' : Act → World → Prop} (hd : ∀ c, o.op ≠ .defer c) (h : o.wp P a w K Q) (hK : ∀ a w, K a w → K' a w) :
    o.wpIn (Fence.wide.inRound l) n P a w K' Q := by
  unfold Oper.wp at h
  unfold Oper.wpIn
  refine ⟨fun _ _ => trivial, ?_⟩
  rw [Oper.semAt_eq _ _ _ hd]
  generalize (execOp a.eval o).run P w = r at h
  have hno : (Fence.wide.inRound l).depth.isSome = true → 1 ≤ n := fun e => by simp [Fence.wide] at e
  cases r with
  | ok x w' =>
    cases x with
    | value v => exact hK _ _ h
    | skip => exact hK _ _ h
    | defer d => exact hK _ _ h
    | enter f args =>
      refine ⟨hno, CallsIn.inRound l (callsIn_wide.2 (Calls.mono h ?_))⟩
      intro e w'' he
      cases e with
      | returned v => exact hK _ _ he
      | panicked c => exact he
      | outgrown => exact he
    | row row args =>
      refine ⟨hno, fun c cs _ => ?_⟩
      obtain ⟨v, w'', r, s⟩ := h c cs
      exact ⟨v, w'', hK _ _ r, stepsIn_wide.2 s⟩
    | _ => exact (h : False).elim
  | halt x w' =>
    cases x with
    | panic v => exact h
    | _ => exact (h : False).elim
theorem any_round {md : Region.Mode} {ops : Array Oper} (hd : ∀ (i : Nat) (o : Oper), ops[i]? = some o → ∀ c, o.op ≠ .defer c) (hQ : ¬ LetsOut Q) :
    ∀ (fuel : Nat) (listed : Array Bool) (a : Act) (w : World), wpAny P md ops Q fuel listed a w → wpAnyIn (Fence.wide.inRound l) n P md ops Q fuel listed a w
  | 0, _, _, _, h => h
  | fuel + 1, listed, a, w, h => ⟨h.1, fun i hi => by
    have h2 := h.2 i hi
    unfold wpOp at h2
    unfold wpOpIn
    cases ho : ops[i]? with
    | none => rw [ho] at h2; exact any_round hd hQ fuel _ _ _ h2
    | some o =>
      rw [ho] at h2
      simp only at h2 ⊢
      split
      · next hw =>
        rw [if_pos hw] at h2
        rcases h2 with h3 | h3
        · exact oper_round (hd i o ho) h3 (fun a w h4 => any_round hd hQ fuel _ _ _ h4)
        · exact absurd h3.2 hQ
      · next hw =>
        rw [if_neg hw] at h2
        exact ⟨fun _ _ => trivial, any_round hd hQ fuel _ _ _ h2⟩⟩
theorem region_round {id : Nat} {ops : Array Oper} {S : World → Prop} {a : Act} {w : World} (hm : P.follows .mixedOrders = true) (hd : ∀ (i : Nat) (o : Oper), ops[i]? = some o → ∀ c, o.op ≠ .defer c) (hQ : ¬ LetsOut Q) (hS : S w.drew)
    (h : S w.drew → wpAnyH P .any ops Q S ops.size (Array.replicate ops.size false) a w.drew) : (Code.region id ops true).wpIn (Fence.wide.inRound l) n P Q a w :=
  wpIn_region_any hm (any_round hd hQ _ _ _ _ (wpAny_of_held _ _ _ _ (h hS)))
end
end Go.Proofs.YthlpjiibjlaebaaGreatDoor
