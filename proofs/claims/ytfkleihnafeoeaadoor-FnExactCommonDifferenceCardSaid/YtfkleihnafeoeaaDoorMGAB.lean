/- Merged: VoSpec2 VoSpec3 VoSpec4. -/
import Derived.Test.YtfkleihnafeoeaaDoorMGAA
import Derived.Maps.AppendAt
namespace Go.Proofs.YtfkleihnafeoeaaDoor
open Go.RowKit
set_option maxRecDepth 1000000
/-- A list that lies in another row than the one that grew. -/
theorem ints_grownV {W W' : World} {aL : Option Addr} {L : List Int} {row : Option Nat} (h : Ints W aL L) (hg : W.grownBy W' row) (hs : W.heap.size ≤ W'.heap.size) (hne : ∀ b off, aL = some ⟨b, off, none⟩ → some b ≠ row) : Ints W' aL L := by
  rcases h with h0 | ⟨b, off, h1, hbl, hc⟩
  · exact .inl h0
  · exact .inr ⟨b, off, h1, Nat.lt_of_lt_of_le hbl hs, fun k hk => hg.cell (hc k hk) (hne b off h1)⟩
def difK (l : List Int) (s k : Nat) : List Nat := (List.range k).filter (fineB l s)
theorem dif_yes {l : List Int} {s k : Nat} (h : fineB l s k = true) : difK l s (k + 1) = difK l s k ++ [k] := by
  unfold difK
  rw [List.range_succ, List.filter_append]
  simp [h]
theorem dif_no {l : List Int} {s k : Nat} (h : fineB l s k = false) : difK l s (k + 1) = difK l s k := by
  unfold difK
  rw [List.range_succ, List.filter_append]
  simp [h]
theorem dif_len (l : List Int) (s k : Nat) : (difK l s k).length ≤ k := by
  unfold difK
  refine Nat.le_trans (List.length_filter_le _ _) ?_
  rw [List.length_range]
  exact Nat.le_refl _
def vI (x : Nat) : Value := .int .i64 (x : Nat)
theorem beq_nat (x y : Nat) : ((x : Int) == (y : Int)) = (x == y) := by
  apply Bool.eq_iff_iff.2
  rw [beq_iff_eq, beq_iff_eq]
  omega
theorem any_take {α : Type} (f : α → Bool) (L : List α) {j : Nat} (h : (L.take j).any f = true) : L.any f = true := by
  rw [List.any_eq_true] at h ⊢
  obtain ⟨x, hx, hf⟩ := h
  exact ⟨x, List.mem_of_mem_take hx, hf⟩
theorem any_next (f : Nat → Bool) (L : List Nat) {j : Nat} (h : j < L.length) (h0 : (L.take j).any f = false) : (L.take (j + 1)).any f = f (L.getD j 0) := by
  rw [List.take_add_one, List.getElem?_eq_getElem h, List.any_append, h0]
  simp [List.getD, List.getElem?_eq_getElem h]
set_option maxHeartbeats 8000000 in
theorem sDfs (w : World) (a : Option Addr) (l : List Int) (n cap : Nat) (s : Int) (hn : n = l.length) (hm : n ≤ 9223372036854775807) (hi : Ints w a l) :
    Calls Tryd.prog 12 #[.agg #[.slice a n cap], .int .i64 s] w fun e w' => ∃ v, e = .returned v ∧ w'.ownsRow w.heap.size 3 1 v (dfsE l s).length ((dfsE l s).map (Value.int .i64)) ∧ Below w.heap.size w w' := by
  obtain ⟨i0, hi0, hz0, hz1, hz2⟩ := info_parts intInfo
  have HI := Lib.hid (ints_alloc hi (.cells #[.slice a n cap] 27))
  have HN := Lib.hid hn
  have C1 := newC w (.slice a n cap) 27 (n := w.heap.size) rfl
  have HB := Lib.hid (Joins.below_alloc1 w (.cells #[.slice a n cap] 27))
  have HI2 := Lib.hid (ints_alloc HI.out (.cells #[] 3))
  have C2 := keepC (Joins.below_alloc1 _ (.cells #[] 3)) (by simp) C1
  have HB2 := Lib.hid (Joins.below_alloc1 (w.alloc (.cells #[.slice a n cap] 27)) (.cells #[] 3))
  have OW : Hid (((w.alloc (.cells #[.slice a n cap] 27)).alloc (.cells #[] 3)).ownsRow (w.heap.size + 1) 3 1 (.slice (some ⟨w.heap.size + 1, 0, none⟩) 0 0) 0 []) := Lib.hid (by simpa using World.ownsRow_lit (base := w.heap.size + 1) (e := 3) (size := 1) (w.alloc (.cells #[.slice a n cap] 27)) #[] 0 (by simp) (by simp [maxLen]) rfl)
  clear hi hn
  cases hs : isS l s with
  | false =>
    have HS := Lib.hid hs
    rw [show dfsE l s = [] by unfold dfsE; rw [hs]; rfl]
    clear hs
    go_enter Tryd.func12, Tryd.ntmps12
    go_wp2_with (go_at_call 24; refine (sIsSet _ _ _ _ _ _ HN.out hm HI2.out).mono ?_; rw [HS.out]; rintro e w1 ⟨rfl, hb1⟩; have T1 := Lib.hid (show Below (w.heap.size + 1) (w.alloc (.cells #[.slice a n cap] 27)) w1 from (HB2.out.mono (by simp)).trans (hb1.mono (by simp))); have O1 := Lib.hid (owns_below OW.out hb1); have c1 := keepC hb1 (by simp <;> omega) C2)
    go_ret
    exact ⟨_, rfl, Joins.ownsRow_le O1.out (Nat.le_succ _), (HB.out.alloc (by simp) _).trans (hb1.mono (by simp; omega))⟩
  | true =>
    have HS := Lib.hid hs
    by_cases hs0 : s = 0
    · rw [show dfsE l s = [] by unfold dfsE; rw [hs0]; simp]
      subst hs0
      clear hs
      go_enter Tryd.func12, Tryd.ntmps12
      go_wp2_with (go_at_call 24; refine (sIsSet _ _ _ _ _ _ HN.out hm HI2.out).mono ?_; rw [HS.out]; rintro e w1 ⟨rfl, hb1⟩; have T1 := Lib.hid (show Below (w.heap.size + 1) (w.alloc (.cells #[.slice a n cap] 27)) w1 from (HB2.out.mono (by simp)).trans (hb1.mono (by simp))); have O1 := Lib.hid (owns_below OW.out hb1); have c1 := keepC hb1 (by simp <;> omega) C2)
      go_ret
      exact ⟨_, rfl, Joins.ownsRow_le O1.out (Nat.le_succ _), (HB.out.alloc (by simp) _).trans (hb1.mono (by simp; omega))⟩
    obtain ⟨hg, s, rfl, hsn, hs24⟩ := isS_true hs
    have es : ((s : Int) == 0) = false := by simpa using hs0
    have hP := (ords_grp hg).prod
    obtain ⟨P, hPe⟩ : ∃ P : Nat, prodI l = (P : Int) := ⟨(prodI l).toNat, by omega⟩
    have hPt : (prodI l).toNat = P := by omega
    have hP24 : P ≤ 24 := by omega
    rw [show dfsE l (s : Int) = (difK l s P).map (fun (x : Nat) => (x : Int)) by unfold dfsE difL difK; rw [hs, es, if_pos (show (true && !false) = true from rfl), Int.toNat_natCast, hPt]]
    have HP := Lib.hid hPe
    have HG := Lib.hid hg
    have HA := Lib.hid hs24
    have HEL := Lib.hid (fun x (hx : x ∈ bitsN s) => grp_elt hg hsn hx)
    have HPR := Lib.hid (fun (W : World) (x d : Nat) (hx : (x : Int) < prodI l) (hd : d < P) (h : Ints W a l) => sPrg W a l n cap x d (bitsN s).length (by omega) (by omega) (bits_le s) HN.out hg h)
    rw [hPe] at HEL HPR
    have HFI : Hid (∀ k, fineB l s k = (bitsN s).any fun x => prgN l x k (bitsN s).length == s) := Lib.hid (fun k => rfl)
    obtain ⟨c, HC⟩ : ∃ c, Hid ((bitsN s).length = c) := ⟨_, Lib.hid rfl⟩
    have hc24 : c ≤ 24 := by rw [← HC.out]; exact bits_le s
    have HLI : Hid (LI s ≠ []) := Lib.hid (by
      obtain ⟨i, hi⟩ := bit_ex (a := s) (show s ≠ 0 by omega)
      intro e
      have := List.ne_nil_of_mem ((mem_bits hs24 i).2 hi)
      exact this (by have h2 := congrArg List.length e; rw [LI_len] at h2; exact List.eq_nil_of_length_eq_zero h2))
    have HNZ : Hid (bitsN s ≠ []) := Lib.hid (by
      obtain ⟨i, hi⟩ := bit_ex (a := s) (show s ≠ 0 by omega)
      exact List.ne_nil_of_mem ((mem_bits hs24 i).2 hi))
    rw [HC.out] at HPR HFI
    obtain ⟨PR, hPRR⟩ : ∃ f : Nat → Nat → Nat, (fun x k => prgN l x k c) = f := ⟨_, rfl⟩
    have hv : ∀ x k, prgN l x k c = PR x k := fun x k => by rw [← hPRR]
    simp only [hv] at HPR HFI
    clear hv hPRR
    obtain ⟨D, hD⟩ : ∃ D, difK l s = D := ⟨_, rfl⟩
    have HD0 : Hid (D 0 = []) := Lib.hid (by rw [← hD]; rfl)
    have HDY : Hid (∀ k, fineB l s k = true → D (k + 1) = D k ++ [k]) := Lib.hid (fun k h => by rw [← hD]; exact dif_yes h)
    have HDN : Hid (∀ k, fineB l s k = false → D (k + 1) = D k) := Lib.hid (fun k h => by rw [← hD]; exact dif_no h)
    have HDL : Hid (∀ k, (D k).length ≤ k) := Lib.hid (fun k => by rw [← hD]; exact dif_len l s k)
    rw [hD]
    clear hs hs0 hg hs24 hsn hP hPe hPt hD
    go_enter Tryd.func12, Tryd.ntmps12
    go_wp2_with (first
      | (go_at_call 26; refine (sL3I _ s HA.out).mono ?_; rintro e w3 ⟨v3, rfl, ho3, hb3⟩; obtain ⟨a3, cap3, rfl⟩ := own_slice ho3; have I3 := Lib.hid (own_ints ho3); have O3 := Lib.hid (owns_below O1.out hb3); have T3 := Lib.hid (T1.out.trans (hb3.mono (by have := T1.out.size; simpa using this))); have c3 := keepC hb3 (World.block_lt_of_cell? w1 _ c1) c1; have X3 := Lib.hid ho3; clear ho3)
      | (go_at_call 25; refine (sBits _ s HA.out).mono ?_; rw [HC.out]; rintro e w2 ⟨rfl, rfl⟩)
      | (go_at_call 24; refine (sIsSet _ _ _ _ _ _ HN.out hm HI2.out).mono ?_; rw [HS.out]; rintro e w1 ⟨rfl, hb1⟩; have T1 := Lib.hid (show Below (w.heap.size + 1) (w.alloc (.cells #[.slice a n cap] 27)) w1 from (HB2.out.mono (by simp)).trans (hb1.mono (by simp))); have O1 := Lib.hid (owns_below OW.out hb1); have c1 := keepC hb1 (by simp <;> omega) C2))
    rcases I3.out with h0 | ⟨bL, oL, h1, hbL, hcL⟩
    · exfalso
      have hz : c = 0 := by rw [← HC.out, ← LI_len, h0]; rfl
      have hz2 := HC.out
      rw [hz] at hz2
      exact HNZ.out (List.eq_nil_of_length_eq_zero hz2)
    subst h1
    have hb1L : w1.heap.size ≤ bL := (X3.out.lt bL rfl).1
    have hw1 : w.heap.size + 1 < w1.heap.size := by have := hb1.size; simp at this; omega
    have IL3 : Hid (Ints w3 (some ⟨bL, oL, none⟩) (LI s)) := Lib.hid (.inr ⟨bL, oL, rfl, hbL, hcL⟩)
    have NE3 : Hid (some bL ≠ (Value.slice (some ⟨w.heap.size + 1, 0, none⟩) 0 0).ownBlock) := Lib.hid (by
      intro e
      have e2 : bL = w.heap.size + 1 := Option.some.inj e
      omega)
    have O3' : Hid (w3.ownsRow (w.heap.size + 1) 3 1 (.slice (some ⟨w.heap.size + 1, 0, none⟩) 0 0) (D 0).length ((D 0).map vI)) := Lib.hid (by rw [HD0.out]; exact O3.out)
    clear I3 hcL X3 hb1L O3
    go_loopw [5, 8] (fun v dd wr => ∃ k : Nat, k ≤ P ∧ dd = .int .i64 k ∧ wr.ownsRow (w.heap.size + 1) 3 1 v (D k).length ((D k).map vI) ∧ some bL ≠ v.ownBlock ∧ Ints wr (some ⟨bL, oL, none⟩) (LI s) ∧ Below (w.heap.size + 1) (w.alloc (.cells #[.slice a n cap] 27)) wr) (fun _ dd _ => P - (intOf dd).toNat)
    case atStart => exact ⟨0, Nat.zero_le _, rfl, O3'.out, NE3.out, IL3.out, T3.out⟩
    case round =>
      rename_i vv _
      obtain ⟨k, hk, rfl, hown, hne, hil, hbel⟩ := hrel
      obtain ⟨wa, rfl⟩ : ∃ W, W = wr := ⟨wr, rfl⟩
      have c4 := keepC hbel (by simp) C1
      have HIr := Lib.hid (HI.out.below (by simp) hbel)
      have HOW := Lib.hid hown
      have HNE := Lib.hid hne
      have HIL := Lib.hid hil
      have HBL := Lib.hid hbel
      clear hown hne hil hbel
      by_cases hlt : k < P
      · have HFK := Lib.hid (HFI.out k)
        have HPK := Lib.hid (fun W x hx h => HPR.out W x k hx hlt h)
        have HY := Lib.hid (HDY.out k)
        have HZ := Lib.hid (HDN.out k)
        have hdl := HDL.out k
        obtain ⟨PK, hPKK⟩ : ∃ f, (fun x => PR x k) = f := ⟨_, rfl⟩
        have hv : ∀ x, PR x k = PK x := fun x => by rw [← hPKK]
        simp only [hv] at HFK HPK
        clear hv hPKK
        go_wp2_with (go_at_call 27; refine (sOrder _ _ l _ _ HN.out HG.out HIr.out).mono ?_; rw [HP.out]; rintro e w5 ⟨rfl, hb5⟩; have T5 := Lib.hid (HBL.out.trans (hb5.mono (by have := HBL.out.size; simpa using this))); have O5 := Lib.hid (owns_below HOW.out hb5); have HI5 := Lib.hid (HIr.out.below rfl hb5); have IL5 := Lib.hid (HIL.out.below rfl hb5); have c5 := keepC hb5 (World.block_lt_of_cell? wa _ c4) c4)
        go_loopw [9, 10] (fun f i wr => ∃ j : Nat, j ≤ c ∧ i = .int .i64 j ∧ f = .bool (((bitsN s).take j).any fun x => PK x == s) ∧ Below w5.heap.size w5 wr) (fun _ i _ => c - (intOf i).toNat)
        case atStart => exact ⟨0, Nat.zero_le _, rfl, rfl, Below.refl _ _⟩
        case round =>
          obtain ⟨j, hj, rfl, rfl, hb6⟩ := hrel
          have HB6 := Lib.hid hb6
          have c6 := keepC hb6 (World.block_lt_of_cell? w5 _ c5) c5
          have T6 := Lib.hid (T5.out.trans (hb6.mono (by have := T5.out.size; simpa using this)))
          have O6 := Lib.hid (owns_below O5.out hb6)
          have IL6 := Lib.hid (IL5.out.below rfl hb6)
          have HI6 := Lib.hid (HI5.out.below rfl hb6)
          have HLN := Lib.hid (LI_len s)
          have hlen : ((LI s).length : Int) = (c : Int) := by rw [HLN.out, HC.out]
          clear hb6
          cases hany : ((bitsN s).take j).any fun x => PK x == s with
          | true =>
            have HFT : Hid (fineB l s k = true) := Lib.hid (by rw [HFK.out]; exact any_take _ _ hany)
            have E1 := Lib.hid (HY.out HFT.out)
            clear hany
            by_cases hjc : j < c
            · have hji : (j : Int) < (c : Int) := by omega
              go_wp2_with (at_builtin; refine wpList_append_own_at _ rfl _ _ 22 rfl (w.heap.size + 1) 3 i0 (.int .i64 0) 1 8 Tryd.underlying22 hi0 hz0 hz1 hz2 rfl (by decide) _ _ _ rfl (O6.out.alloc _) ⟨wr.heap.size, 0, none⟩ 1 1 [vI k] rfl (by simp) ?c1 ?c2 ?c3 ?c4 ?c5 ?_)
              case c1 =>
                intro q u2 hq
                match q, hq with
                | 0, hq => simp at hq; subst hq; first | (simp [vI]; done) | simp [Addr.add, vI]
              case c2 => first | (intro u2 hu2; simp at hu2; subst hu2; rfl) | rfl
              case c3 => unfold maxLen; omega
              case c4 => omega
              case c5 => have := T6.out.size; simp at *; omega
              intro v' w8 hown' hgrow _ hob
              have HBW : Hid (Below (w.heap.size + 1) (w.alloc (.cells #[.slice a n cap] 27)) w8) := Lib.hid ((T6.out.alloc (by have := T6.out.size; simp at *; omega) _).grown hgrow (by have := T6.out.size; simp at *; omega) (fun g hg => by have := (O6.out.lt g hg).1; omega))
              have HOW8 : Hid (w8.ownsRow (w.heap.size + 1) 3 1 v' (D (k + 1)).length ((D (k + 1)).map vI)) := Lib.hid (by
                rw [E1.out, List.length_append, List.map_append]
                simpa using hown')
              have IL8 := Lib.hid (ints_grownV (IL6.out.below rfl (Joins.below_alloc1 wr (.cells #[vI k] 3))) hgrow hgrow.size (fun b off e => by cases e; exact HNE.out))
              have NE8 : Hid (some bL ≠ v'.ownBlock) := Lib.hid (by
                rcases hob with e | e
                · rw [e]; exact HNE.out
                · rw [e]
                  intro q
                  have q2 := Option.some.inj q
                  rcases IL6.out with h0 | ⟨b, off, h1, hb, _⟩
                  · exact HLI.out h0
                  · cases h1
                    first | omega | (rw [World.size_alloc] at q2; omega))
              clear hown' hgrow hob
              go_wp2
              go_roundw
              case rel => exact ⟨k + 1, by omega, by go_num, HOW8.out, NE8.out, IL8.out, HBW.out⟩
              case measure => simp [intOf]; omega
            · have hji : ¬ (j : Int) < (c : Int) := by omega
              go_wp2_with (at_builtin; refine wpList_append_own_at _ rfl _ _ 22 rfl (w.heap.size + 1) 3 i0 (.int .i64 0) 1 8 Tryd.underlying22 hi0 hz0 hz1 hz2 rfl (by decide) _ _ _ rfl (O6.out.alloc _) ⟨wr.heap.size, 0, none⟩ 1 1 [vI k] rfl (by simp) ?c1 ?c2 ?c3 ?c4 ?c5 ?_)
              case c1 =>
                intro q u2 hq
                match q, hq with
                | 0, hq => simp at hq; subst hq; first | (simp [vI]; done) | simp [Addr.add, vI]
              case c2 => first | (intro u2 hu2; simp at hu2; subst hu2; rfl) | rfl
              case c3 => unfold maxLen; omega
              case c4 => omega
              case c5 => have := T6.out.size; simp at *; omega
              intro v' w8 hown' hgrow _ hob
              have HBW : Hid (Below (w.heap.size + 1) (w.alloc (.cells #[.slice a n cap] 27)) w8) := Lib.hid ((T6.out.alloc (by have := T6.out.size; simp at *; omega) _).grown hgrow (by have := T6.out.size; simp at *; omega) (fun g hg => by have := (O6.out.lt g hg).1; omega))
              have HOW8 : Hid (w8.ownsRow (w.heap.size + 1) 3 1 v' (D (k + 1)).length ((D (k + 1)).map vI)) := Lib.hid (by
                rw [E1.out, List.length_append, List.map_append]
                simpa using hown')
              have IL8 := Lib.hid (ints_grownV (IL6.out.below rfl (Joins.below_alloc1 wr (.cells #[vI k] 3))) hgrow hgrow.size (fun b off e => by cases e; exact HNE.out))
              have NE8 : Hid (some bL ≠ v'.ownBlock) := Lib.hid (by
                rcases hob with e | e
                · rw [e]; exact HNE.out
                · rw [e]
                  intro q
                  have q2 := Option.some.inj q
                  rcases IL6.out with h0 | ⟨b, off, h1, hb, _⟩
                  · exact HLI.out h0
                  · cases h1
                    first | omega | (rw [World.size_alloc] at q2; omega))
              clear hown' hgrow hob
              go_wp2
              go_roundw
              case rel => exact ⟨k + 1, by omega, by go_num, HOW8.out, NE8.out, IL8.out, HBW.out⟩
              case measure => simp [intOf]; omega
          | false =>
            by_cases hjc : j < c
            · have hjl : j < (bitsN s).length := by rw [HC.out]; exact hjc
              have HNX := Lib.hid (any_next (fun x => PK x == s) (bitsN s) hjl hany)
              have hji : (j : Int) < (c : Int) := by omega
              have hmem : (bitsN s).getD j 0 ∈ bitsN s := by
                rw [List.getD, List.getElem?_eq_getElem hjl]
                exact List.getElem_mem hjl
              have hyP := HEL.out _ hmem
              have hkl : j < (LI s).length := by rw [HLN.out]; exact hjl
              rcases IL6.out with h0 | ⟨b, off, h1, hbl, hcl⟩
              · exact absurd h0 HLI.out
              cases h1
              have d6 := hcl j hkl
              rw [LI_at s j hjl] at d6
              obtain ⟨y, hy⟩ : ∃ y, (bitsN s).getD j 0 = y := ⟨_, rfl⟩
              rw [hy] at d6 hyP HNX
              have HPY := Lib.hid (fun W h => HPK.out W y hyP h)
              obtain ⟨V, hV⟩ : ∃ V, PK y = V := ⟨_, rfl⟩
              rw [hV] at HPY HNX
              have HEQ := Lib.hid (beq_nat V s)
              have HBD := Lib.hid ((Below.refl wr.heap.size wr).drew)
              clear hany hmem hyP hkl hcl hy hV hjl
              go_wp2
              go_region_held3 (fun W => W.cell? ⟨w.heap.size, 0, none⟩ = some (.slice a n cap) ∧ W.cell? ⟨bL, oL + j, none⟩ = some (.int .i64 (y : Nat))) (first | exact ⟨c8, d8⟩ | exact ⟨c6, d6⟩)
                (first | (go_at_call 28; refine (HPY.out _ (HI6.out.below rfl HBD.out)).mono ?_; rintro e w8 ⟨rfl, hb8⟩; have c8 := keepC hb8 (World.block_lt_of_cell? _ _ c6) c6; have d8 := keepC hb8 (World.block_lt_of_cell? _ _ d6) d6))
              all_goals
                go_wp2
                go_roundw
                case rel => exact ⟨j + 1, by omega, by go_num, by rw [HNX.out, HEQ.out], HB6.out.trans ((HBD.out.trans hb8).mono HB6.out.size)⟩
                case measure => simp [intOf]; omega
            · obtain rfl : j = c := by omega
              have HFF : Hid (fineB l s k = false) := Lib.hid (by
                rw [HFK.out, ← hany, ← HC.out, List.take_length])
              have E1 := Lib.hid (HZ.out HFF.out)
              have hji : ¬ (j : Int) < (j : Int) := by omega
              clear hany
              go_wp2
              go_roundw
              case rel => exact ⟨k + 1, by omega, by go_num, by rw [E1.out]; exact O6.out, HNE.out, IL6.out, T6.out⟩
              case measure => simp [intOf]; omega
      · obtain rfl : k = P := by omega
        go_wp2_with (go_at_call 27; refine (sOrder _ _ l _ _ HN.out HG.out HIr.out).mono ?_; rw [HP.out]; rintro e w5 ⟨rfl, hb5⟩)
        go_ret
        exact ⟨_, rfl, by rw [List.length_map, List.map_map]; exact Joins.ownsRow_le (owns_below HOW.out hb5) (Nat.le_succ _), (HB.out.mono (Nat.le_refl _)).trans ((HBL.out.trans (hb5.mono (by have := HBL.out.size; simpa using this))).mono (by omega))⟩
end Go.Proofs.YtfkleihnafeoeaaDoor

namespace Go.Proofs.YtfkleihnafeoeaaDoor
open Go.RowKit
set_option maxRecDepth 1000000
theorem find_at {p : Int → Bool} : ∀ {L : List Int} {i : Nat}, i < L.length → p (L.getD i 0) = true → (∀ k, k < i → p (L.getD k 0) = false) → L.find? p = some (L.getD i 0)
  | [], i, h, _, _ => absurd h (by simp)
  | x :: L, 0, _, h, _ => by
    have h2 : p x = true := h
    rw [List.find?_cons, h2]
    rfl
  | x :: L, i + 1, h, h1, h2 => by
    have h3 : p x = false := h2 0 (by omega)
    rw [List.find?_cons, h3]
    exact find_at (by simpa using h) h1 (fun k hk => h2 (k + 1) (by omega))
theorem find_no {p : Int → Bool} {L : List Int} (h : ∀ k, k < L.length → p (L.getD k 0) = false) : L.find? p = none := by
  rw [List.find?_eq_none]
  intro x hx
  obtain ⟨k, hk, e⟩ := List.getElem_of_mem hx
  have := h k hk
  simp [List.getD, List.getElem?_eq_getElem hk, e] at this
  simp [this]
theorem has_at {L : List Int} {j : Nat} {x : Int} (h : j < L.length) (e : L.getD j 0 = x) : L.contains x = true := by
  have : x ∈ L := by rw [← e, List.getD, List.getElem?_eq_getElem h]; exact List.getElem_mem h
  simpa using this
theorem has_no {L : List Int} {x : Int} (h : ∀ j, j < L.length → L.getD j 0 ≠ x) : L.contains x = false := by
  cases e : L.contains x with
  | false => rfl
  | true =>
    have : x ∈ L := by simpa using e
    obtain ⟨k, hk, e2⟩ := List.getElem_of_mem this
    exact absurd (by simp [List.getD, List.getElem?_eq_getElem hk, e2]) (h k hk)
theorem dfs_len (l : List Int) (s : Int) : (dfsE l s).length ≤ 24 := by
  cases hs : isS l s with
  | false => rw [show dfsE l s = [] by unfold dfsE; rw [hs]; rfl]; simp
  | true =>
    obtain ⟨hg, _⟩ := isS_true hs
    have hp := (ords_grp hg).prod
    unfold dfsE
    by_cases h : (isS l s && !(s == 0)) = true
    · rw [if_pos h, List.length_map]
      unfold difL
      refine Nat.le_trans (List.length_filter_le _ _) ?_
      rw [List.length_range]
      omega
    · rw [if_neg h]; simp
set_option maxHeartbeats 8000000 in
theorem sCom (w : World) (a : Option Addr) (l : List Int) (n cap : Nat) (s t : Int) (hn : n = l.length) (hm : n ≤ 9223372036854775807) (hi : Ints w a l) :
    Calls Tryd.prog 20 #[.agg #[.slice a n cap], .int .i64 s, .int .i64 t] w fun e w' => e = .returned (.tuple #[.int .i64 (comE l s t), .bool (comB l s t)]) ∧ Below w.heap.size w w' := by
  have HI := Lib.hid (ints_alloc hi (.cells #[.slice a n cap] 27))
  have HN := Lib.hid hn
  have C1 := newC w (.slice a n cap) 27 (n := w.heap.size) rfl
  have HB := Lib.hid (Joins.below_alloc1 w (.cells #[.slice a n cap] 27))
  have T0 := Lib.hid (Below.refl (w.alloc (.cells #[.slice a n cap] 27)).heap.size (w.alloc (.cells #[.slice a n cap] 27)))
  clear hi hn
  have hx24 := dfs_len l s
  have hy24 := dfs_len l t
  have HCO : Hid (comO l s t = (dfsE l s).find? fun x => (dfsE l t).contains x) := Lib.hid rfl
  have HCE : Hid (comE l s t = (comO l s t).getD 0 ∧ comB l s t = (comO l s t).isSome) := Lib.hid ⟨rfl, rfl⟩
  obtain ⟨X, HX⟩ : ∃ X, Hid (dfsE l s = X) := ⟨_, Lib.hid rfl⟩
  obtain ⟨Y, HY⟩ : ∃ Y, Hid (dfsE l t = Y) := ⟨_, Lib.hid rfl⟩
  rw [HX.out] at hx24 HCO
  rw [HY.out] at hy24 HCO
  rw [HCE.out.1, HCE.out.2]
  obtain ⟨Z, hZ⟩ : ∃ Z, comO l s t = Z := ⟨_, rfl⟩
  rw [hZ] at HCO
  rw [hZ]
  clear HCE hZ
  go_enter Tryd.func20, Tryd.ntmps20
  go_wp2_with (first
    | (go_at_call 12; have hx_ := T1; clear hx_; refine (sDfs _ _ _ _ _ _ HN.out hm (HI.out.below rfl T1.out)).mono ?_; rw [HY.out]; rintro e w2 ⟨v2, rfl, ho2, hb2⟩; obtain ⟨a2, cap2, rfl⟩ := own_slice ho2; have I2 := Lib.hid (own_ints ho2); have T2 := Lib.hid (T1.out.trans (hb2.mono T1.out.size)); have c2 := keepC T2.out (by simp) C1; clear ho2; have I1 := Lib.hid (I1.out.below rfl hb2))
    | (go_at_call 12; refine (sDfs _ _ _ _ _ _ HN.out hm (HI.out.below rfl T0.out)).mono ?_; rw [HX.out]; rintro e w1 ⟨v1, rfl, ho1, hb1⟩; obtain ⟨a1, cap1, rfl⟩ := own_slice ho1; have I1 := Lib.hid (own_ints ho1); have T1 := Lib.hid (T0.out.trans (hb1.mono T0.out.size)); have c1 := keepC T1.out (by simp) C1; clear ho1))
  obtain ⟨NX, HLX⟩ : ∃ N, Hid (X.length = N) := ⟨_, Lib.hid rfl⟩
  obtain ⟨NY, HLY⟩ : ∃ N, Hid (Y.length = N) := ⟨_, Lib.hid rfl⟩
  rw [HLX.out] at hx24
  rw [HLY.out] at hy24
  rw [HLX.out, HLY.out]
  go_loopw [10] (fun i wr => ∃ k : Nat, k ≤ NX ∧ i = .int .i64 k ∧ (∀ j, j < k → Y.contains (X.getD j 0) = false) ∧ Below w2.heap.size w2 wr) (fun i _ => NX - (intOf i).toNat)
  case atStart => exact ⟨0, Nat.zero_le _, rfl, fun j h => absurd h (by omega), Below.refl _ _⟩
  case round =>
    obtain ⟨k, hk, rfl, hall, hbel⟩ := hrel
    obtain ⟨wa, rfl⟩ : ∃ W, W = wr := ⟨wr, rfl⟩
    have HALL := Lib.hid hall
    have HBL := Lib.hid hbel
    have I1a := Lib.hid (I1.out.below rfl hbel)
    have I2a := Lib.hid (I2.out.below rfl hbel)
    clear hall hbel
    by_cases hlt : k < NX
    · have hki : (k : Int) < (NX : Int) := by omega
      go_wp2
      go_loopw [11] (fun i wr => ∃ m : Nat, m ≤ NY ∧ i = .int .i64 m ∧ (∀ j, j < m → Y.getD j 0 ≠ X.getD k 0) ∧ Below wa.heap.size wa wr) (fun i _ => NY - (intOf i).toNat)
      case atStart => exact ⟨0, Nat.zero_le _, rfl, fun j h => absurd h (by omega), Below.refl _ _⟩
      case round =>
        obtain ⟨m, hmm, rfl, hno, hb6⟩ := hrel
        have HNO := Lib.hid hno
        have HB6 := Lib.hid hb6
        by_cases hmy : m < NY
        · have hmi : (m : Int) < (NY : Int) := by omega
          have hkx : k < X.length := by rw [HLX.out]; exact hlt
          have hmyl : m < Y.length := by rw [HLY.out]; exact hmy
          rcases I1a.out.below rfl hb6 with h0 | ⟨b1, o1, e1, _, f1⟩
          · rw [h0] at hkx; simp at hkx
          rcases I2a.out.below rfl hb6 with h0 | ⟨b2, o2, e2, _, f2⟩
          · rw [h0] at hmyl; simp at hmyl
          subst e1 e2
          have q1 := f1 k hkx
          have q2 := f2 m hmyl
          have HHA := Lib.hid (fun e => has_at (L := Y) (j := m) (x := X.getD k 0) hmyl e)
          have HFA := Lib.hid (fun h => find_at (p := fun x => Y.contains x) hkx h HALL.out)
          obtain ⟨x, HXK⟩ : ∃ x, Hid (X.getD k 0 = x) := ⟨_, Lib.hid rfl⟩
          obtain ⟨y, HYM⟩ : ∃ y, Hid (Y.getD m 0 = y) := ⟨_, Lib.hid rfl⟩
          rw [HXK.out] at q1 HHA HFA
          rw [HYM.out] at q2 HHA
          clear hno hb6 f1 f2 hkx hmyl
          by_cases hxy : x = y
          · have HZS : Hid (Z = some x) := Lib.hid (by rw [HCO.out]; exact HFA.out (HHA.out hxy.symm))
            have HXY := Lib.hid hxy
            have hbq : (x == y) = true := by simpa using hxy
            clear hxy HHA HFA
            go_wp2
            go_region_held3 (fun W => W.cell? ⟨b1, o1 + k, none⟩ = some (.int .i64 x) ∧ W.cell? ⟨b2, o2 + m, none⟩ = some (.int .i64 y)) (exact ⟨q1, q2⟩) (fail)
            all_goals
              go_wp2
              go_ret2
              exact ⟨by rw [HZS.out]; rfl, HB.out.trans ((T2.out.trans (((HBL.out.trans (HB6.out.mono HBL.out.size)).drew).mono T2.out.size)).mono (by simp))⟩
          · have hbq : (x == y) = false := by simpa using hxy
            have HNXY := Lib.hid hxy
            clear hxy HHA HFA
            go_wp2
            go_region_held3 (fun W => W.cell? ⟨b1, o1 + k, none⟩ = some (.int .i64 x) ∧ W.cell? ⟨b2, o2 + m, none⟩ = some (.int .i64 y)) (exact ⟨q1, q2⟩) (fail)
            all_goals
              go_wp2
              go_roundw
              case rel => exact ⟨m + 1, by omega, by go_num, fun j hj => by
                by_cases e : j = m
                · subst e; rw [HYM.out, HXK.out]; exact fun q => HNXY.out q.symm
                · exact HNO.out j (by omega), HB6.out.drew⟩
              case measure => simp [intOf]; omega
        · obtain rfl : m = NY := by omega
          have HHN := Lib.hid (has_no (fun j hj => hno j (by rw [← HLY.out]; exact hj)))
          have hmi : ¬ (m : Int) < (m : Int) := by omega
          clear hno hb6
          go_wp2
          go_roundw
          case rel => exact ⟨k + 1, by omega, by go_num, fun j hj => by
            by_cases e : j = k
            · subst e; exact HHN.out
            · exact HALL.out j (by omega), HBL.out.trans (HB6.out.mono HBL.out.size)⟩
          case measure => simp [intOf]; omega
    · obtain rfl : k = NX := by omega
      have HZN : Hid (Z = none) := Lib.hid (by rw [HCO.out]; exact find_no (fun j hj => HALL.out j (by rw [← HLX.out]; exact hj)))
      have hki : ¬ (k : Int) < (k : Int) := by omega
      go_wp2
      go_ret2
      exact ⟨by rw [HZN.out]; rfl, HB.out.trans ((T2.out.trans (HBL.out.mono T2.out.size)).mono (by simp))⟩
end Go.Proofs.YtfkleihnafeoeaaDoor

namespace Go.Proofs.YtfkleihnafeoeaaDoor
open Go.RowKit
set_option maxRecDepth 1000000
/-- The texts of the cases. -/
def vosT : Nat → ByteArray
  | 0 => ByteArray.mk #[]
  | 1 => ByteArray.mk #[119, 104, 111, 108, 101]
  | 2 => ByteArray.mk #[108, 97, 114, 103, 101]
  | 3 => ByteArray.mk #[111, 110, 101]
  | 4 => ByteArray.mk #[115, 116, 101, 112, 115]
  | 5 => ByteArray.mk #[103, 97, 112]
  | _ => ByteArray.mk #[110, 111, 110, 101]
/-- The case by the answers to the questions. -/
def vosF (b1 b2 b3 b4 b5 c b7 : Bool) : Nat := if (b1 && b2) = true then 1 else if b3 = false then 2 else if (b4 || b5) = true then 3 else if c = true then 4 else if b7 = true then 5 else 6
theorem vos_no {l : List Int} {s t : Int} (h : (prmB l && neB l s t) = false) : vosK l s t = 0 := by unfold vosK; rw [if_neg (by simp [h])]
theorem vos_yes {l : List Int} {s t : Int} (h : (prmB l && neB l s t) = true) : vosK l s t = vosF (((bitsN (sumN l s.toNat t.toNat)).length : Int) == prodI l) (decide (prodI l ≤ ((bitsN s.toNat).length : Int) + ((bitsN t.toNat).length : Int) - 1)) (((bitsN (sumN l s.toNat t.toNat)).length : Int) == ((bitsN s.toNat).length : Int) + ((bitsN t.toNat).length : Int) - 1) (((bitsN s.toNat).length : Int) == 1) (((bitsN t.toNat).length : Int) == 1) (comB l s t) ((((bitsN s.toNat).length : Int) + ((bitsN t.toNat).length : Int) - 1) == prodI l - 1) := by
  unfold vosK vosF
  rw [if_pos h]
theorem vos_nat {l : List Int} {u v : Nat} (h : (prmB l && neB l (u : Int) (v : Int)) = true) : vosK l (u : Int) (v : Int) = vosF (((bitsN (sumN l u v)).length : Int) == prodI l) (decide (prodI l ≤ ((bitsN u).length : Int) + ((bitsN v).length : Int) - 1)) (((bitsN (sumN l u v)).length : Int) == ((bitsN u).length : Int) + ((bitsN v).length : Int) - 1) (((bitsN u).length : Int) == 1) (((bitsN v).length : Int) == 1) (comB l (u : Int) (v : Int)) ((((bitsN u).length : Int) + ((bitsN v).length : Int) - 1) == prodI l - 1) := vos_yes h
set_option maxHeartbeats 2000000 in
theorem sIsPr (w : World) (a : Option Addr) (l : List Int) (n cap : Nat) (s : Int) (hn : n = l.length) (hm : n ≤ 9223372036854775807) (hi : Ints w a l) :
    Calls Tryd.prog 8 #[.agg #[.slice a n cap], .int .i64 s] w fun e w' => e = .returned (.bool (decide (0 < ((dfsE l s).length : Int)))) ∧ Below w.heap.size w w' := by
  have HI := Lib.hid (ints_alloc hi (.cells #[.slice a n cap] 27))
  have HN := Lib.hid hn
  have C1 := newC w (.slice a n cap) 27 (n := w.heap.size) rfl
  have HB := Lib.hid (Joins.below_alloc1 w (.cells #[.slice a n cap] 27))
  have T0 := Lib.hid (Below.refl (w.alloc (.cells #[.slice a n cap] 27)).heap.size (w.alloc (.cells #[.slice a n cap] 27)))
  clear hi hn
  go_enter Tryd.func8, Tryd.ntmps8
  go_wp2_with (go_at_call 12; refine (sDfs _ _ _ _ _ _ HN.out hm (HI.out.below rfl T0.out)).mono ?_; rintro e w1 ⟨v1, rfl, ho1, hb1⟩; obtain ⟨a1, cap1, rfl⟩ := own_slice ho1; have T1 := Lib.hid (T0.out.trans (hb1.mono T0.out.size)); clear ho1)
  go_ret
  exact ⟨by rw [show decide (0 < ((dfsE l s).length : Int)) = decide (0 < (dfsE l s).length) from by simp]; rfl, HB.out.trans (T1.out.mono (by simp))⟩
set_option maxHeartbeats 16000000 in
theorem sVos (w : World) (a : Option Addr) (l : List Int) (n cap : Nat) (s t : Int) (hn : n = l.length) (hm : n ≤ 9223372036854775807) (hi : Ints w a l) :
    Calls Tryd.prog 18 #[.agg #[.slice a n cap], .int .i64 s, .int .i64 t] w fun e w' => e = .returned (.string (vosT (vosK l s t))) ∧ Below w.heap.size w w' := by
  have HI := Lib.hid (ints_alloc hi (.cells #[.slice a n cap] 27))
  have HN := Lib.hid hn
  have C1 := newC w (.slice a n cap) 27 (n := w.heap.size) rfl
  have HB := Lib.hid (Joins.below_alloc1 w (.cells #[.slice a n cap] 27))
  have T0 := Lib.hid (Below.refl (w.alloc (.cells #[.slice a n cap] 27)).heap.size (w.alloc (.cells #[.slice a n cap] 27)))
  clear hi hn
  cases hpm : prmB l with
  | false =>
    have HPM := Lib.hid hpm
    rw [show vosK l s t = 0 from vos_no (by rw [hpm]; rfl)]
    clear hpm
    go_enter Tryd.func18, Tryd.ntmps18
    go_wp2_with (first
      | (go_at_call 32; refine (sPrm _ _ _ _ _ HN.out hm (HI.out.below rfl T0.out)).mono ?_; rw [HPM.out]; rintro e w1 ⟨rfl, hb1⟩; have T1 := Lib.hid (T0.out.trans (hb1.mono T0.out.size)); have c1 := keepC T1.out (by simp) C1; have K1 := True.intro))
    go_ret
    exact ⟨by first | rfl | (rw [HKK.out]; rfl), HB.out.trans (T1.out.mono (by simp))⟩
  | true =>
    have HPM := Lib.hid hpm
    cases hs : isS l s with
    | false =>
      have HS := Lib.hid hs
      rw [show vosK l s t = 0 from vos_no (by unfold neB two; rw [hs]; simp)]
      clear hpm hs
      go_enter Tryd.func18, Tryd.ntmps18
      go_wp2_with (first
        | (go_at_call 24; have hx_ := K1; clear hx_; refine (sIsSet _ _ _ _ _ _ HN.out hm (HI.out.below rfl T1.out)).mono ?_; rw [HS.out]; rintro e w2 ⟨rfl, hb2⟩; have T2 := Lib.hid (T1.out.trans (hb2.mono T1.out.size)); have c2 := keepC T2.out (by simp) C1; have K2 := True.intro)
        | (go_at_call 32; refine (sPrm _ _ _ _ _ HN.out hm (HI.out.below rfl T0.out)).mono ?_; rw [HPM.out]; rintro e w1 ⟨rfl, hb1⟩; have T1 := Lib.hid (T0.out.trans (hb1.mono T0.out.size)); have c1 := keepC T1.out (by simp) C1; have K1 := True.intro))
      go_ret
      exact ⟨by first | rfl | (rw [HKK.out]; rfl), HB.out.trans (T2.out.mono (by simp))⟩
    | true =>
      have HS := Lib.hid hs
      cases ht : isS l t with
      | false =>
        have HS2 := Lib.hid ht
        rw [show vosK l s t = 0 from vos_no (by unfold neB two; rw [hs, ht]; simp)]
        clear hpm hs ht
        go_enter Tryd.func18, Tryd.ntmps18
        go_wp2_with (first
          | (go_at_call 24; have hx_ := K2; clear hx_; refine (sIsSet _ _ _ _ _ _ HN.out hm (HI.out.below rfl T2.out)).mono ?_; rw [HS2.out]; rintro e w3 ⟨rfl, hb3⟩; have T3 := Lib.hid (T2.out.trans (hb3.mono T2.out.size)); have c3 := keepC T3.out (by simp) C1; have K3 := True.intro)
          | (go_at_call 24; have hx_ := K1; clear hx_; refine (sIsSet _ _ _ _ _ _ HN.out hm (HI.out.below rfl T1.out)).mono ?_; rw [HS.out]; rintro e w2 ⟨rfl, hb2⟩; have T2 := Lib.hid (T1.out.trans (hb2.mono T1.out.size)); have c2 := keepC T2.out (by simp) C1; have K2 := True.intro)
          | (go_at_call 32; refine (sPrm _ _ _ _ _ HN.out hm (HI.out.below rfl T0.out)).mono ?_; rw [HPM.out]; rintro e w1 ⟨rfl, hb1⟩; have T1 := Lib.hid (T0.out.trans (hb1.mono T0.out.size)); have c1 := keepC T1.out (by simp) C1; have K1 := True.intro))
        go_ret
        exact ⟨by first | rfl | (rw [HKK.out]; rfl), HB.out.trans (T3.out.mono (by simp))⟩
      | true =>
        have HS2 := Lib.hid ht
        by_cases hs0 : s = 0
        · rw [show vosK l s t = 0 from vos_no (by unfold neB; rw [hs0]; simp)]
          subst hs0
          clear hpm hs ht
          go_enter Tryd.func18, Tryd.ntmps18
          go_wp2_with (first
            | (go_at_call 24; have hx_ := K2; clear hx_; refine (sIsSet _ _ _ _ _ _ HN.out hm (HI.out.below rfl T2.out)).mono ?_; rw [HS2.out]; rintro e w3 ⟨rfl, hb3⟩; have T3 := Lib.hid (T2.out.trans (hb3.mono T2.out.size)); have c3 := keepC T3.out (by simp) C1; have K3 := True.intro)
            | (go_at_call 24; have hx_ := K1; clear hx_; refine (sIsSet _ _ _ _ _ _ HN.out hm (HI.out.below rfl T1.out)).mono ?_; rw [HS.out]; rintro e w2 ⟨rfl, hb2⟩; have T2 := Lib.hid (T1.out.trans (hb2.mono T1.out.size)); have c2 := keepC T2.out (by simp) C1; have K2 := True.intro)
            | (go_at_call 32; refine (sPrm _ _ _ _ _ HN.out hm (HI.out.below rfl T0.out)).mono ?_; rw [HPM.out]; rintro e w1 ⟨rfl, hb1⟩; have T1 := Lib.hid (T0.out.trans (hb1.mono T0.out.size)); have c1 := keepC T1.out (by simp) C1; have K1 := True.intro))
          go_ret
          exact ⟨by first | rfl | (rw [HKK.out]; rfl), HB.out.trans (T3.out.mono (by simp))⟩
        by_cases ht0 : t = 0
        · rw [show vosK l s t = 0 from vos_no (by unfold neB; rw [ht0]; simp)]
          have es : (s == 0) = false := by simpa using hs0
          subst ht0
          clear hpm hs ht hs0
          go_enter Tryd.func18, Tryd.ntmps18
          go_wp2_with (first
            | (go_at_call 24; have hx_ := K2; clear hx_; refine (sIsSet _ _ _ _ _ _ HN.out hm (HI.out.below rfl T2.out)).mono ?_; rw [HS2.out]; rintro e w3 ⟨rfl, hb3⟩; have T3 := Lib.hid (T2.out.trans (hb3.mono T2.out.size)); have c3 := keepC T3.out (by simp) C1; have K3 := True.intro)
            | (go_at_call 24; have hx_ := K1; clear hx_; refine (sIsSet _ _ _ _ _ _ HN.out hm (HI.out.below rfl T1.out)).mono ?_; rw [HS.out]; rintro e w2 ⟨rfl, hb2⟩; have T2 := Lib.hid (T1.out.trans (hb2.mono T1.out.size)); have c2 := keepC T2.out (by simp) C1; have K2 := True.intro)
            | (go_at_call 32; refine (sPrm _ _ _ _ _ HN.out hm (HI.out.below rfl T0.out)).mono ?_; rw [HPM.out]; rintro e w1 ⟨rfl, hb1⟩; have T1 := Lib.hid (T0.out.trans (hb1.mono T0.out.size)); have c1 := keepC T1.out (by simp) C1; have K1 := True.intro))
          go_ret
          exact ⟨by first | rfl | (rw [HKK.out]; rfl), HB.out.trans (T3.out.mono (by simp))⟩
        have hne : neB l s t = true := by unfold neB two; rw [hs, ht]; simp [hs0, ht0]
        obtain ⟨hg, u, rfl, hu, hu24⟩ := isS_true hs
        obtain ⟨_, v, rfl, hv, hv24⟩ := isS_true ht
        have hK := vos_nat (show (prmB l && neB l (u : Int) (v : Int)) = true by rw [hpm, hne]; rfl)
        have es : ((u : Int) == 0) = false := by simpa using hs0
        have et : ((v : Int) == 0) = false := by simpa using ht0
        have HG := Lib.hid hg
        have HU := Lib.hid hu24
        have HV := Lib.hid hv24
        have hp := (ords_grp hg).prod
        obtain ⟨P, hPe⟩ : ∃ P : Nat, prodI l = (P : Int) := ⟨(prodI l).toNat, by omega⟩
        have hP1 : 1 ≤ P := by omega
        have hP24 : P ≤ 24 := by omega
        have HP := Lib.hid hPe
        rw [hPe] at hK
        have hx24 := grp_pow hg (sumN_lt hg u v)
        obtain ⟨X, hX⟩ : ∃ X, sumN l u v = X := ⟨_, rfl⟩
        have HX := Lib.hid hX
        rw [hX] at hK hx24
        have q1 := bits_le u
        have q2 := bits_le v
        have q3 := bits_le X
        have D1 := Lib.hid (fun (W : World) => sBits W u hu24)
        have D2 := Lib.hid (fun (W : World) => sBits W v hv24)
        have D3 := Lib.hid (fun (W : World) => sBits W X hx24)
        obtain ⟨L1, hL1⟩ : ∃ L, (bitsN u).length = L := ⟨_, rfl⟩
        obtain ⟨L2, hL2⟩ : ∃ L, (bitsN v).length = L := ⟨_, rfl⟩
        obtain ⟨L3, hL3⟩ : ∃ L, (bitsN X).length = L := ⟨_, rfl⟩
        rw [hL1] at D1 q1 hK
        rw [hL2] at D2 q2 hK
        rw [hL3] at D3 q3 hK
        obtain ⟨CE, hCE⟩ : ∃ z, comE l (u : Int) (v : Int) = z := ⟨_, rfl⟩
        obtain ⟨CB, hCB⟩ : ∃ z, comB l (u : Int) (v : Int) = z := ⟨_, rfl⟩
        have HCM := Lib.hid (And.intro hCE hCB)
        rw [hCB] at hK
        obtain ⟨B1, hB1⟩ : ∃ b, ((L3 : Int) == (P : Int)) = b := ⟨_, rfl⟩
        obtain ⟨B2, hB2⟩ : ∃ b, decide ((P : Int) ≤ (L1 : Int) + (L2 : Int) - 1) = b := ⟨_, rfl⟩
        obtain ⟨B3, hB3⟩ : ∃ b, ((L3 : Int) == (L1 : Int) + (L2 : Int) - 1) = b := ⟨_, rfl⟩
        obtain ⟨B4, hB4⟩ : ∃ b, ((L1 : Int) == 1) = b := ⟨_, rfl⟩
        obtain ⟨B5, hB5⟩ : ∃ b, ((L2 : Int) == 1) = b := ⟨_, rfl⟩
        obtain ⟨B7, hB7⟩ : ∃ b, ((L1 : Int) + (L2 : Int) - 1 == (P : Int) - 1) = b := ⟨_, rfl⟩
        rw [hB1, hB2, hB3, hB4, hB5, hB7] at hK
        have hB3n : ((L3 : Int) != (L1 : Int) + (L2 : Int) - 1) = !B3 := by rw [← hB3]; rfl
        have HKK := Lib.hid hK
        clear hpm hs ht hs0 ht0 hne hK hg hu hu24 hv hv24 hp hPe hX hx24 hL1 hL2 hL3 hCE hCB
        cases B1 with
        | true =>
          cases B2 with
          | true =>
            go_enter Tryd.func18, Tryd.ntmps18
            go_wp2_with (first
              | (go_at_call 25; have hx_ := K11; clear hx_; refine (D2.out _).mono ?_; rintro e w_ ⟨rfl, rfl⟩; have K12 := True.intro)
              | (go_at_call 25; have hx_ := K10; clear hx_; refine (D1.out _).mono ?_; rintro e w_ ⟨rfl, rfl⟩; have K11 := True.intro)
              | (go_at_call 25; have hx_ := K9; clear hx_; refine (D3.out _).mono ?_; rintro e w_ ⟨rfl, rfl⟩; have K10 := True.intro)
              | (go_at_call 25; have hx_ := K8; clear hx_; refine (D3.out _).mono ?_; rintro e w_ ⟨rfl, rfl⟩; have K9 := True.intro)
              | (go_at_call 20; have hx_ := K7; clear hx_; refine (sCom _ _ _ _ _ _ _ HN.out hm (HI.out.below rfl T5.out)).mono ?_; rw [HCM.out.1, HCM.out.2]; rintro e w6 ⟨rfl, hb6⟩; have T6 := Lib.hid (T5.out.trans (hb6.mono T5.out.size)); have c6 := keepC T6.out (by simp) C1; have K8 := True.intro)
              | (go_at_call 25; have hx_ := K6; clear hx_; refine (D2.out _).mono ?_; rintro e w_ ⟨rfl, rfl⟩; have K7 := True.intro)
              | (go_at_call 25; have hx_ := K5; clear hx_; refine (D1.out _).mono ?_; rintro e w_ ⟨rfl, rfl⟩; have K6 := True.intro)
              | (go_at_call 33; have hx_ := K4; clear hx_; refine (sSumL _ _ l _ _ u v HU.out HV.out HN.out HG.out (HI.out.below rfl T4.out)).mono ?_; rw [HX.out]; rintro e w5 ⟨rfl, hb5⟩; have T5 := Lib.hid (T4.out.trans (hb5.mono T4.out.size)); have c5 := keepC T5.out (by simp) C1; have K5 := True.intro)
              | (go_at_call 27; have hx_ := K3; clear hx_; refine (sOrder _ _ l _ _ HN.out HG.out (HI.out.below rfl T3.out)).mono ?_; rw [HP.out]; rintro e w4 ⟨rfl, hb4⟩; have T4 := Lib.hid (T3.out.trans (hb4.mono T3.out.size)); have c4 := keepC T4.out (by simp) C1; have K4 := True.intro)
              | (go_at_call 24; have hx_ := K2; clear hx_; refine (sIsSet _ _ _ _ _ _ HN.out hm (HI.out.below rfl T2.out)).mono ?_; rw [HS2.out]; rintro e w3 ⟨rfl, hb3⟩; have T3 := Lib.hid (T2.out.trans (hb3.mono T2.out.size)); have c3 := keepC T3.out (by simp) C1; have K3 := True.intro)
              | (go_at_call 24; have hx_ := K1; clear hx_; refine (sIsSet _ _ _ _ _ _ HN.out hm (HI.out.below rfl T1.out)).mono ?_; rw [HS.out]; rintro e w2 ⟨rfl, hb2⟩; have T2 := Lib.hid (T1.out.trans (hb2.mono T1.out.size)); have c2 := keepC T2.out (by simp) C1; have K2 := True.intro)
              | (go_at_call 32; refine (sPrm _ _ _ _ _ HN.out hm (HI.out.below rfl T0.out)).mono ?_; rw [HPM.out]; rintro e w1 ⟨rfl, hb1⟩; have T1 := Lib.hid (T0.out.trans (hb1.mono T0.out.size)); have c1 := keepC T1.out (by simp) C1; have K1 := True.intro))
            go_ret
            exact ⟨by first | rfl | (rw [HKK.out]; rfl), HB.out.trans (T6.out.mono (by simp))⟩
          | false =>
            cases B3 with
            | false =>
              rw [Bool.not_false] at hB3n
              go_enter Tryd.func18, Tryd.ntmps18
              go_wp2_with (first
                | (go_at_call 25; have hx_ := K11; clear hx_; refine (D2.out _).mono ?_; rintro e w_ ⟨rfl, rfl⟩; have K12 := True.intro)
                | (go_at_call 25; have hx_ := K10; clear hx_; refine (D1.out _).mono ?_; rintro e w_ ⟨rfl, rfl⟩; have K11 := True.intro)
                | (go_at_call 25; have hx_ := K9; clear hx_; refine (D3.out _).mono ?_; rintro e w_ ⟨rfl, rfl⟩; have K10 := True.intro)
                | (go_at_call 25; have hx_ := K8; clear hx_; refine (D3.out _).mono ?_; rintro e w_ ⟨rfl, rfl⟩; have K9 := True.intro)
                | (go_at_call 20; have hx_ := K7; clear hx_; refine (sCom _ _ _ _ _ _ _ HN.out hm (HI.out.below rfl T5.out)).mono ?_; rw [HCM.out.1, HCM.out.2]; rintro e w6 ⟨rfl, hb6⟩; have T6 := Lib.hid (T5.out.trans (hb6.mono T5.out.size)); have c6 := keepC T6.out (by simp) C1; have K8 := True.intro)
                | (go_at_call 25; have hx_ := K6; clear hx_; refine (D2.out _).mono ?_; rintro e w_ ⟨rfl, rfl⟩; have K7 := True.intro)
                | (go_at_call 25; have hx_ := K5; clear hx_; refine (D1.out _).mono ?_; rintro e w_ ⟨rfl, rfl⟩; have K6 := True.intro)
                | (go_at_call 33; have hx_ := K4; clear hx_; refine (sSumL _ _ l _ _ u v HU.out HV.out HN.out HG.out (HI.out.below rfl T4.out)).mono ?_; rw [HX.out]; rintro e w5 ⟨rfl, hb5⟩; have T5 := Lib.hid (T4.out.trans (hb5.mono T4.out.size)); have c5 := keepC T5.out (by simp) C1; have K5 := True.intro)
                | (go_at_call 27; have hx_ := K3; clear hx_; refine (sOrder _ _ l _ _ HN.out HG.out (HI.out.below rfl T3.out)).mono ?_; rw [HP.out]; rintro e w4 ⟨rfl, hb4⟩; have T4 := Lib.hid (T3.out.trans (hb4.mono T3.out.size)); have c4 := keepC T4.out (by simp) C1; have K4 := True.intro)
                | (go_at_call 24; have hx_ := K2; clear hx_; refine (sIsSet _ _ _ _ _ _ HN.out hm (HI.out.below rfl T2.out)).mono ?_; rw [HS2.out]; rintro e w3 ⟨rfl, hb3⟩; have T3 := Lib.hid (T2.out.trans (hb3.mono T2.out.size)); have c3 := keepC T3.out (by simp) C1; have K3 := True.intro)
                | (go_at_call 24; have hx_ := K1; clear hx_; refine (sIsSet _ _ _ _ _ _ HN.out hm (HI.out.below rfl T1.out)).mono ?_; rw [HS.out]; rintro e w2 ⟨rfl, hb2⟩; have T2 := Lib.hid (T1.out.trans (hb2.mono T1.out.size)); have c2 := keepC T2.out (by simp) C1; have K2 := True.intro)
                | (go_at_call 32; refine (sPrm _ _ _ _ _ HN.out hm (HI.out.below rfl T0.out)).mono ?_; rw [HPM.out]; rintro e w1 ⟨rfl, hb1⟩; have T1 := Lib.hid (T0.out.trans (hb1.mono T0.out.size)); have c1 := keepC T1.out (by simp) C1; have K1 := True.intro))
              go_ret
              exact ⟨by first | rfl | (rw [HKK.out]; rfl), HB.out.trans (T6.out.mono (by simp))⟩
            | true =>
              rw [Bool.not_true] at hB3n
              cases B4 with
              | true =>
                go_enter Tryd.func18, Tryd.ntmps18
                go_wp2_with (first
                  | (go_at_call 25; have hx_ := K11; clear hx_; refine (D2.out _).mono ?_; rintro e w_ ⟨rfl, rfl⟩; have K12 := True.intro)
                  | (go_at_call 25; have hx_ := K10; clear hx_; refine (D1.out _).mono ?_; rintro e w_ ⟨rfl, rfl⟩; have K11 := True.intro)
                  | (go_at_call 25; have hx_ := K9; clear hx_; refine (D3.out _).mono ?_; rintro e w_ ⟨rfl, rfl⟩; have K10 := True.intro)
                  | (go_at_call 25; have hx_ := K8; clear hx_; refine (D3.out _).mono ?_; rintro e w_ ⟨rfl, rfl⟩; have K9 := True.intro)
                  | (go_at_call 20; have hx_ := K7; clear hx_; refine (sCom _ _ _ _ _ _ _ HN.out hm (HI.out.below rfl T5.out)).mono ?_; rw [HCM.out.1, HCM.out.2]; rintro e w6 ⟨rfl, hb6⟩; have T6 := Lib.hid (T5.out.trans (hb6.mono T5.out.size)); have c6 := keepC T6.out (by simp) C1; have K8 := True.intro)
                  | (go_at_call 25; have hx_ := K6; clear hx_; refine (D2.out _).mono ?_; rintro e w_ ⟨rfl, rfl⟩; have K7 := True.intro)
                  | (go_at_call 25; have hx_ := K5; clear hx_; refine (D1.out _).mono ?_; rintro e w_ ⟨rfl, rfl⟩; have K6 := True.intro)
                  | (go_at_call 33; have hx_ := K4; clear hx_; refine (sSumL _ _ l _ _ u v HU.out HV.out HN.out HG.out (HI.out.below rfl T4.out)).mono ?_; rw [HX.out]; rintro e w5 ⟨rfl, hb5⟩; have T5 := Lib.hid (T4.out.trans (hb5.mono T4.out.size)); have c5 := keepC T5.out (by simp) C1; have K5 := True.intro)
                  | (go_at_call 27; have hx_ := K3; clear hx_; refine (sOrder _ _ l _ _ HN.out HG.out (HI.out.below rfl T3.out)).mono ?_; rw [HP.out]; rintro e w4 ⟨rfl, hb4⟩; have T4 := Lib.hid (T3.out.trans (hb4.mono T3.out.size)); have c4 := keepC T4.out (by simp) C1; have K4 := True.intro)
                  | (go_at_call 24; have hx_ := K2; clear hx_; refine (sIsSet _ _ _ _ _ _ HN.out hm (HI.out.below rfl T2.out)).mono ?_; rw [HS2.out]; rintro e w3 ⟨rfl, hb3⟩; have T3 := Lib.hid (T2.out.trans (hb3.mono T2.out.size)); have c3 := keepC T3.out (by simp) C1; have K3 := True.intro)
                  | (go_at_call 24; have hx_ := K1; clear hx_; refine (sIsSet _ _ _ _ _ _ HN.out hm (HI.out.below rfl T1.out)).mono ?_; rw [HS.out]; rintro e w2 ⟨rfl, hb2⟩; have T2 := Lib.hid (T1.out.trans (hb2.mono T1.out.size)); have c2 := keepC T2.out (by simp) C1; have K2 := True.intro)
                  | (go_at_call 32; refine (sPrm _ _ _ _ _ HN.out hm (HI.out.below rfl T0.out)).mono ?_; rw [HPM.out]; rintro e w1 ⟨rfl, hb1⟩; have T1 := Lib.hid (T0.out.trans (hb1.mono T0.out.size)); have c1 := keepC T1.out (by simp) C1; have K1 := True.intro))
                go_ret
                exact ⟨by first | rfl | (rw [HKK.out]; rfl), HB.out.trans (T6.out.mono (by simp))⟩
              | false =>
                cases B5 with
                | true =>
                  go_enter Tryd.func18, Tryd.ntmps18
                  go_wp2_with (first
                    | (go_at_call 25; have hx_ := K11; clear hx_; refine (D2.out _).mono ?_; rintro e w_ ⟨rfl, rfl⟩; have K12 := True.intro)
                    | (go_at_call 25; have hx_ := K10; clear hx_; refine (D1.out _).mono ?_; rintro e w_ ⟨rfl, rfl⟩; have K11 := True.intro)
                    | (go_at_call 25; have hx_ := K9; clear hx_; refine (D3.out _).mono ?_; rintro e w_ ⟨rfl, rfl⟩; have K10 := True.intro)
                    | (go_at_call 25; have hx_ := K8; clear hx_; refine (D3.out _).mono ?_; rintro e w_ ⟨rfl, rfl⟩; have K9 := True.intro)
                    | (go_at_call 20; have hx_ := K7; clear hx_; refine (sCom _ _ _ _ _ _ _ HN.out hm (HI.out.below rfl T5.out)).mono ?_; rw [HCM.out.1, HCM.out.2]; rintro e w6 ⟨rfl, hb6⟩; have T6 := Lib.hid (T5.out.trans (hb6.mono T5.out.size)); have c6 := keepC T6.out (by simp) C1; have K8 := True.intro)
                    | (go_at_call 25; have hx_ := K6; clear hx_; refine (D2.out _).mono ?_; rintro e w_ ⟨rfl, rfl⟩; have K7 := True.intro)
                    | (go_at_call 25; have hx_ := K5; clear hx_; refine (D1.out _).mono ?_; rintro e w_ ⟨rfl, rfl⟩; have K6 := True.intro)
                    | (go_at_call 33; have hx_ := K4; clear hx_; refine (sSumL _ _ l _ _ u v HU.out HV.out HN.out HG.out (HI.out.below rfl T4.out)).mono ?_; rw [HX.out]; rintro e w5 ⟨rfl, hb5⟩; have T5 := Lib.hid (T4.out.trans (hb5.mono T4.out.size)); have c5 := keepC T5.out (by simp) C1; have K5 := True.intro)
                    | (go_at_call 27; have hx_ := K3; clear hx_; refine (sOrder _ _ l _ _ HN.out HG.out (HI.out.below rfl T3.out)).mono ?_; rw [HP.out]; rintro e w4 ⟨rfl, hb4⟩; have T4 := Lib.hid (T3.out.trans (hb4.mono T3.out.size)); have c4 := keepC T4.out (by simp) C1; have K4 := True.intro)
                    | (go_at_call 24; have hx_ := K2; clear hx_; refine (sIsSet _ _ _ _ _ _ HN.out hm (HI.out.below rfl T2.out)).mono ?_; rw [HS2.out]; rintro e w3 ⟨rfl, hb3⟩; have T3 := Lib.hid (T2.out.trans (hb3.mono T2.out.size)); have c3 := keepC T3.out (by simp) C1; have K3 := True.intro)
                    | (go_at_call 24; have hx_ := K1; clear hx_; refine (sIsSet _ _ _ _ _ _ HN.out hm (HI.out.below rfl T1.out)).mono ?_; rw [HS.out]; rintro e w2 ⟨rfl, hb2⟩; have T2 := Lib.hid (T1.out.trans (hb2.mono T1.out.size)); have c2 := keepC T2.out (by simp) C1; have K2 := True.intro)
                    | (go_at_call 32; refine (sPrm _ _ _ _ _ HN.out hm (HI.out.below rfl T0.out)).mono ?_; rw [HPM.out]; rintro e w1 ⟨rfl, hb1⟩; have T1 := Lib.hid (T0.out.trans (hb1.mono T0.out.size)); have c1 := keepC T1.out (by simp) C1; have K1 := True.intro))
                  go_ret
                  exact ⟨by first | rfl | (rw [HKK.out]; rfl), HB.out.trans (T6.out.mono (by simp))⟩
                | false =>
                  cases CB with
                  | true =>
                    go_enter Tryd.func18, Tryd.ntmps18
                    go_wp2_with (first
                      | (go_at_call 25; have hx_ := K11; clear hx_; refine (D2.out _).mono ?_; rintro e w_ ⟨rfl, rfl⟩; have K12 := True.intro)
                      | (go_at_call 25; have hx_ := K10; clear hx_; refine (D1.out _).mono ?_; rintro e w_ ⟨rfl, rfl⟩; have K11 := True.intro)
                      | (go_at_call 25; have hx_ := K9; clear hx_; refine (D3.out _).mono ?_; rintro e w_ ⟨rfl, rfl⟩; have K10 := True.intro)
                      | (go_at_call 25; have hx_ := K8; clear hx_; refine (D3.out _).mono ?_; rintro e w_ ⟨rfl, rfl⟩; have K9 := True.intro)
                      | (go_at_call 20; have hx_ := K7; clear hx_; refine (sCom _ _ _ _ _ _ _ HN.out hm (HI.out.below rfl T5.out)).mono ?_; rw [HCM.out.1, HCM.out.2]; rintro e w6 ⟨rfl, hb6⟩; have T6 := Lib.hid (T5.out.trans (hb6.mono T5.out.size)); have c6 := keepC T6.out (by simp) C1; have K8 := True.intro)
                      | (go_at_call 25; have hx_ := K6; clear hx_; refine (D2.out _).mono ?_; rintro e w_ ⟨rfl, rfl⟩; have K7 := True.intro)
                      | (go_at_call 25; have hx_ := K5; clear hx_; refine (D1.out _).mono ?_; rintro e w_ ⟨rfl, rfl⟩; have K6 := True.intro)
                      | (go_at_call 33; have hx_ := K4; clear hx_; refine (sSumL _ _ l _ _ u v HU.out HV.out HN.out HG.out (HI.out.below rfl T4.out)).mono ?_; rw [HX.out]; rintro e w5 ⟨rfl, hb5⟩; have T5 := Lib.hid (T4.out.trans (hb5.mono T4.out.size)); have c5 := keepC T5.out (by simp) C1; have K5 := True.intro)
                      | (go_at_call 27; have hx_ := K3; clear hx_; refine (sOrder _ _ l _ _ HN.out HG.out (HI.out.below rfl T3.out)).mono ?_; rw [HP.out]; rintro e w4 ⟨rfl, hb4⟩; have T4 := Lib.hid (T3.out.trans (hb4.mono T3.out.size)); have c4 := keepC T4.out (by simp) C1; have K4 := True.intro)
                      | (go_at_call 24; have hx_ := K2; clear hx_; refine (sIsSet _ _ _ _ _ _ HN.out hm (HI.out.below rfl T2.out)).mono ?_; rw [HS2.out]; rintro e w3 ⟨rfl, hb3⟩; have T3 := Lib.hid (T2.out.trans (hb3.mono T2.out.size)); have c3 := keepC T3.out (by simp) C1; have K3 := True.intro)
                      | (go_at_call 24; have hx_ := K1; clear hx_; refine (sIsSet _ _ _ _ _ _ HN.out hm (HI.out.below rfl T1.out)).mono ?_; rw [HS.out]; rintro e w2 ⟨rfl, hb2⟩; have T2 := Lib.hid (T1.out.trans (hb2.mono T1.out.size)); have c2 := keepC T2.out (by simp) C1; have K2 := True.intro)
                      | (go_at_call 32; refine (sPrm _ _ _ _ _ HN.out hm (HI.out.below rfl T0.out)).mono ?_; rw [HPM.out]; rintro e w1 ⟨rfl, hb1⟩; have T1 := Lib.hid (T0.out.trans (hb1.mono T0.out.size)); have c1 := keepC T1.out (by simp) C1; have K1 := True.intro))
                    go_ret
                    exact ⟨by first | rfl | (rw [HKK.out]; rfl), HB.out.trans (T6.out.mono (by simp))⟩
                  | false =>
                    cases B7 with
                    | true =>
                      go_enter Tryd.func18, Tryd.ntmps18
                      go_wp2_with (first
                        | (go_at_call 25; have hx_ := K11; clear hx_; refine (D2.out _).mono ?_; rintro e w_ ⟨rfl, rfl⟩; have K12 := True.intro)
                        | (go_at_call 25; have hx_ := K10; clear hx_; refine (D1.out _).mono ?_; rintro e w_ ⟨rfl, rfl⟩; have K11 := True.intro)
                        | (go_at_call 25; have hx_ := K9; clear hx_; refine (D3.out _).mono ?_; rintro e w_ ⟨rfl, rfl⟩; have K10 := True.intro)
                        | (go_at_call 25; have hx_ := K8; clear hx_; refine (D3.out _).mono ?_; rintro e w_ ⟨rfl, rfl⟩; have K9 := True.intro)
                        | (go_at_call 20; have hx_ := K7; clear hx_; refine (sCom _ _ _ _ _ _ _ HN.out hm (HI.out.below rfl T5.out)).mono ?_; rw [HCM.out.1, HCM.out.2]; rintro e w6 ⟨rfl, hb6⟩; have T6 := Lib.hid (T5.out.trans (hb6.mono T5.out.size)); have c6 := keepC T6.out (by simp) C1; have K8 := True.intro)
                        | (go_at_call 25; have hx_ := K6; clear hx_; refine (D2.out _).mono ?_; rintro e w_ ⟨rfl, rfl⟩; have K7 := True.intro)
                        | (go_at_call 25; have hx_ := K5; clear hx_; refine (D1.out _).mono ?_; rintro e w_ ⟨rfl, rfl⟩; have K6 := True.intro)
                        | (go_at_call 33; have hx_ := K4; clear hx_; refine (sSumL _ _ l _ _ u v HU.out HV.out HN.out HG.out (HI.out.below rfl T4.out)).mono ?_; rw [HX.out]; rintro e w5 ⟨rfl, hb5⟩; have T5 := Lib.hid (T4.out.trans (hb5.mono T4.out.size)); have c5 := keepC T5.out (by simp) C1; have K5 := True.intro)
                        | (go_at_call 27; have hx_ := K3; clear hx_; refine (sOrder _ _ l _ _ HN.out HG.out (HI.out.below rfl T3.out)).mono ?_; rw [HP.out]; rintro e w4 ⟨rfl, hb4⟩; have T4 := Lib.hid (T3.out.trans (hb4.mono T3.out.size)); have c4 := keepC T4.out (by simp) C1; have K4 := True.intro)
                        | (go_at_call 24; have hx_ := K2; clear hx_; refine (sIsSet _ _ _ _ _ _ HN.out hm (HI.out.below rfl T2.out)).mono ?_; rw [HS2.out]; rintro e w3 ⟨rfl, hb3⟩; have T3 := Lib.hid (T2.out.trans (hb3.mono T2.out.size)); have c3 := keepC T3.out (by simp) C1; have K3 := True.intro)
                        | (go_at_call 24; have hx_ := K1; clear hx_; refine (sIsSet _ _ _ _ _ _ HN.out hm (HI.out.below rfl T1.out)).mono ?_; rw [HS.out]; rintro e w2 ⟨rfl, hb2⟩; have T2 := Lib.hid (T1.out.trans (hb2.mono T1.out.size)); have c2 := keepC T2.out (by simp) C1; have K2 := True.intro)
                        | (go_at_call 32; refine (sPrm _ _ _ _ _ HN.out hm (HI.out.below rfl T0.out)).mono ?_; rw [HPM.out]; rintro e w1 ⟨rfl, hb1⟩; have T1 := Lib.hid (T0.out.trans (hb1.mono T0.out.size)); have c1 := keepC T1.out (by simp) C1; have K1 := True.intro))
                      go_ret
                      exact ⟨by first | rfl | (rw [HKK.out]; rfl), HB.out.trans (T6.out.mono (by simp))⟩
                    | false =>
                      go_enter Tryd.func18, Tryd.ntmps18
                      go_wp2_with (first
                        | (go_at_call 25; have hx_ := K11; clear hx_; refine (D2.out _).mono ?_; rintro e w_ ⟨rfl, rfl⟩; have K12 := True.intro)
                        | (go_at_call 25; have hx_ := K10; clear hx_; refine (D1.out _).mono ?_; rintro e w_ ⟨rfl, rfl⟩; have K11 := True.intro)
                        | (go_at_call 25; have hx_ := K9; clear hx_; refine (D3.out _).mono ?_; rintro e w_ ⟨rfl, rfl⟩; have K10 := True.intro)
                        | (go_at_call 25; have hx_ := K8; clear hx_; refine (D3.out _).mono ?_; rintro e w_ ⟨rfl, rfl⟩; have K9 := True.intro)
                        | (go_at_call 20; have hx_ := K7; clear hx_; refine (sCom _ _ _ _ _ _ _ HN.out hm (HI.out.below rfl T5.out)).mono ?_; rw [HCM.out.1, HCM.out.2]; rintro e w6 ⟨rfl, hb6⟩; have T6 := Lib.hid (T5.out.trans (hb6.mono T5.out.size)); have c6 := keepC T6.out (by simp) C1; have K8 := True.intro)
                        | (go_at_call 25; have hx_ := K6; clear hx_; refine (D2.out _).mono ?_; rintro e w_ ⟨rfl, rfl⟩; have K7 := True.intro)
                        | (go_at_call 25; have hx_ := K5; clear hx_; refine (D1.out _).mono ?_; rintro e w_ ⟨rfl, rfl⟩; have K6 := True.intro)
                        | (go_at_call 33; have hx_ := K4; clear hx_; refine (sSumL _ _ l _ _ u v HU.out HV.out HN.out HG.out (HI.out.below rfl T4.out)).mono ?_; rw [HX.out]; rintro e w5 ⟨rfl, hb5⟩; have T5 := Lib.hid (T4.out.trans (hb5.mono T4.out.size)); have c5 := keepC T5.out (by simp) C1; have K5 := True.intro)
                        | (go_at_call 27; have hx_ := K3; clear hx_; refine (sOrder _ _ l _ _ HN.out HG.out (HI.out.below rfl T3.out)).mono ?_; rw [HP.out]; rintro e w4 ⟨rfl, hb4⟩; have T4 := Lib.hid (T3.out.trans (hb4.mono T3.out.size)); have c4 := keepC T4.out (by simp) C1; have K4 := True.intro)
                        | (go_at_call 24; have hx_ := K2; clear hx_; refine (sIsSet _ _ _ _ _ _ HN.out hm (HI.out.below rfl T2.out)).mono ?_; rw [HS2.out]; rintro e w3 ⟨rfl, hb3⟩; have T3 := Lib.hid (T2.out.trans (hb3.mono T2.out.size)); have c3 := keepC T3.out (by simp) C1; have K3 := True.intro)
                        | (go_at_call 24; have hx_ := K1; clear hx_; refine (sIsSet _ _ _ _ _ _ HN.out hm (HI.out.below rfl T1.out)).mono ?_; rw [HS.out]; rintro e w2 ⟨rfl, hb2⟩; have T2 := Lib.hid (T1.out.trans (hb2.mono T1.out.size)); have c2 := keepC T2.out (by simp) C1; have K2 := True.intro)
                        | (go_at_call 32; refine (sPrm _ _ _ _ _ HN.out hm (HI.out.below rfl T0.out)).mono ?_; rw [HPM.out]; rintro e w1 ⟨rfl, hb1⟩; have T1 := Lib.hid (T0.out.trans (hb1.mono T0.out.size)); have c1 := keepC T1.out (by simp) C1; have K1 := True.intro))
                      go_ret
                      exact ⟨by first | rfl | (rw [HKK.out]; rfl), HB.out.trans (T6.out.mono (by simp))⟩
        | false =>
          cases B3 with
          | false =>
            rw [Bool.not_false] at hB3n
            go_enter Tryd.func18, Tryd.ntmps18
            go_wp2_with (first
              | (go_at_call 25; have hx_ := K11; clear hx_; refine (D2.out _).mono ?_; rintro e w_ ⟨rfl, rfl⟩; have K12 := True.intro)
              | (go_at_call 25; have hx_ := K10; clear hx_; refine (D1.out _).mono ?_; rintro e w_ ⟨rfl, rfl⟩; have K11 := True.intro)
              | (go_at_call 25; have hx_ := K9; clear hx_; refine (D3.out _).mono ?_; rintro e w_ ⟨rfl, rfl⟩; have K10 := True.intro)
              | (go_at_call 25; have hx_ := K8; clear hx_; refine (D3.out _).mono ?_; rintro e w_ ⟨rfl, rfl⟩; have K9 := True.intro)
              | (go_at_call 20; have hx_ := K7; clear hx_; refine (sCom _ _ _ _ _ _ _ HN.out hm (HI.out.below rfl T5.out)).mono ?_; rw [HCM.out.1, HCM.out.2]; rintro e w6 ⟨rfl, hb6⟩; have T6 := Lib.hid (T5.out.trans (hb6.mono T5.out.size)); have c6 := keepC T6.out (by simp) C1; have K8 := True.intro)
              | (go_at_call 25; have hx_ := K6; clear hx_; refine (D2.out _).mono ?_; rintro e w_ ⟨rfl, rfl⟩; have K7 := True.intro)
              | (go_at_call 25; have hx_ := K5; clear hx_; refine (D1.out _).mono ?_; rintro e w_ ⟨rfl, rfl⟩; have K6 := True.intro)
              | (go_at_call 33; have hx_ := K4; clear hx_; refine (sSumL _ _ l _ _ u v HU.out HV.out HN.out HG.out (HI.out.below rfl T4.out)).mono ?_; rw [HX.out]; rintro e w5 ⟨rfl, hb5⟩; have T5 := Lib.hid (T4.out.trans (hb5.mono T4.out.size)); have c5 := keepC T5.out (by simp) C1; have K5 := True.intro)
              | (go_at_call 27; have hx_ := K3; clear hx_; refine (sOrder _ _ l _ _ HN.out HG.out (HI.out.below rfl T3.out)).mono ?_; rw [HP.out]; rintro e w4 ⟨rfl, hb4⟩; have T4 := Lib.hid (T3.out.trans (hb4.mono T3.out.size)); have c4 := keepC T4.out (by simp) C1; have K4 := True.intro)
              | (go_at_call 24; have hx_ := K2; clear hx_; refine (sIsSet _ _ _ _ _ _ HN.out hm (HI.out.below rfl T2.out)).mono ?_; rw [HS2.out]; rintro e w3 ⟨rfl, hb3⟩; have T3 := Lib.hid (T2.out.trans (hb3.mono T2.out.size)); have c3 := keepC T3.out (by simp) C1; have K3 := True.intro)
              | (go_at_call 24; have hx_ := K1; clear hx_; refine (sIsSet _ _ _ _ _ _ HN.out hm (HI.out.below rfl T1.out)).mono ?_; rw [HS.out]; rintro e w2 ⟨rfl, hb2⟩; have T2 := Lib.hid (T1.out.trans (hb2.mono T1.out.size)); have c2 := keepC T2.out (by simp) C1; have K2 := True.intro)
              | (go_at_call 32; refine (sPrm _ _ _ _ _ HN.out hm (HI.out.below rfl T0.out)).mono ?_; rw [HPM.out]; rintro e w1 ⟨rfl, hb1⟩; have T1 := Lib.hid (T0.out.trans (hb1.mono T0.out.size)); have c1 := keepC T1.out (by simp) C1; have K1 := True.intro))
            go_ret
            exact ⟨by first | rfl | (rw [HKK.out]; rfl), HB.out.trans (T6.out.mono (by simp))⟩
          | true =>
            rw [Bool.not_true] at hB3n
            cases B4 with
            | true =>
              go_enter Tryd.func18, Tryd.ntmps18
              go_wp2_with (first
                | (go_at_call 25; have hx_ := K11; clear hx_; refine (D2.out _).mono ?_; rintro e w_ ⟨rfl, rfl⟩; have K12 := True.intro)
                | (go_at_call 25; have hx_ := K10; clear hx_; refine (D1.out _).mono ?_; rintro e w_ ⟨rfl, rfl⟩; have K11 := True.intro)
                | (go_at_call 25; have hx_ := K9; clear hx_; refine (D3.out _).mono ?_; rintro e w_ ⟨rfl, rfl⟩; have K10 := True.intro)
                | (go_at_call 25; have hx_ := K8; clear hx_; refine (D3.out _).mono ?_; rintro e w_ ⟨rfl, rfl⟩; have K9 := True.intro)
                | (go_at_call 20; have hx_ := K7; clear hx_; refine (sCom _ _ _ _ _ _ _ HN.out hm (HI.out.below rfl T5.out)).mono ?_; rw [HCM.out.1, HCM.out.2]; rintro e w6 ⟨rfl, hb6⟩; have T6 := Lib.hid (T5.out.trans (hb6.mono T5.out.size)); have c6 := keepC T6.out (by simp) C1; have K8 := True.intro)
                | (go_at_call 25; have hx_ := K6; clear hx_; refine (D2.out _).mono ?_; rintro e w_ ⟨rfl, rfl⟩; have K7 := True.intro)
                | (go_at_call 25; have hx_ := K5; clear hx_; refine (D1.out _).mono ?_; rintro e w_ ⟨rfl, rfl⟩; have K6 := True.intro)
                | (go_at_call 33; have hx_ := K4; clear hx_; refine (sSumL _ _ l _ _ u v HU.out HV.out HN.out HG.out (HI.out.below rfl T4.out)).mono ?_; rw [HX.out]; rintro e w5 ⟨rfl, hb5⟩; have T5 := Lib.hid (T4.out.trans (hb5.mono T4.out.size)); have c5 := keepC T5.out (by simp) C1; have K5 := True.intro)
                | (go_at_call 27; have hx_ := K3; clear hx_; refine (sOrder _ _ l _ _ HN.out HG.out (HI.out.below rfl T3.out)).mono ?_; rw [HP.out]; rintro e w4 ⟨rfl, hb4⟩; have T4 := Lib.hid (T3.out.trans (hb4.mono T3.out.size)); have c4 := keepC T4.out (by simp) C1; have K4 := True.intro)
                | (go_at_call 24; have hx_ := K2; clear hx_; refine (sIsSet _ _ _ _ _ _ HN.out hm (HI.out.below rfl T2.out)).mono ?_; rw [HS2.out]; rintro e w3 ⟨rfl, hb3⟩; have T3 := Lib.hid (T2.out.trans (hb3.mono T2.out.size)); have c3 := keepC T3.out (by simp) C1; have K3 := True.intro)
                | (go_at_call 24; have hx_ := K1; clear hx_; refine (sIsSet _ _ _ _ _ _ HN.out hm (HI.out.below rfl T1.out)).mono ?_; rw [HS.out]; rintro e w2 ⟨rfl, hb2⟩; have T2 := Lib.hid (T1.out.trans (hb2.mono T1.out.size)); have c2 := keepC T2.out (by simp) C1; have K2 := True.intro)
                | (go_at_call 32; refine (sPrm _ _ _ _ _ HN.out hm (HI.out.below rfl T0.out)).mono ?_; rw [HPM.out]; rintro e w1 ⟨rfl, hb1⟩; have T1 := Lib.hid (T0.out.trans (hb1.mono T0.out.size)); have c1 := keepC T1.out (by simp) C1; have K1 := True.intro))
              go_ret
              exact ⟨by first | rfl | (rw [HKK.out]; rfl), HB.out.trans (T6.out.mono (by simp))⟩
            | false =>
              cases B5 with
              | true =>
                go_enter Tryd.func18, Tryd.ntmps18
                go_wp2_with (first
                  | (go_at_call 25; have hx_ := K11; clear hx_; refine (D2.out _).mono ?_; rintro e w_ ⟨rfl, rfl⟩; have K12 := True.intro)
                  | (go_at_call 25; have hx_ := K10; clear hx_; refine (D1.out _).mono ?_; rintro e w_ ⟨rfl, rfl⟩; have K11 := True.intro)
                  | (go_at_call 25; have hx_ := K9; clear hx_; refine (D3.out _).mono ?_; rintro e w_ ⟨rfl, rfl⟩; have K10 := True.intro)
                  | (go_at_call 25; have hx_ := K8; clear hx_; refine (D3.out _).mono ?_; rintro e w_ ⟨rfl, rfl⟩; have K9 := True.intro)
                  | (go_at_call 20; have hx_ := K7; clear hx_; refine (sCom _ _ _ _ _ _ _ HN.out hm (HI.out.below rfl T5.out)).mono ?_; rw [HCM.out.1, HCM.out.2]; rintro e w6 ⟨rfl, hb6⟩; have T6 := Lib.hid (T5.out.trans (hb6.mono T5.out.size)); have c6 := keepC T6.out (by simp) C1; have K8 := True.intro)
                  | (go_at_call 25; have hx_ := K6; clear hx_; refine (D2.out _).mono ?_; rintro e w_ ⟨rfl, rfl⟩; have K7 := True.intro)
                  | (go_at_call 25; have hx_ := K5; clear hx_; refine (D1.out _).mono ?_; rintro e w_ ⟨rfl, rfl⟩; have K6 := True.intro)
                  | (go_at_call 33; have hx_ := K4; clear hx_; refine (sSumL _ _ l _ _ u v HU.out HV.out HN.out HG.out (HI.out.below rfl T4.out)).mono ?_; rw [HX.out]; rintro e w5 ⟨rfl, hb5⟩; have T5 := Lib.hid (T4.out.trans (hb5.mono T4.out.size)); have c5 := keepC T5.out (by simp) C1; have K5 := True.intro)
                  | (go_at_call 27; have hx_ := K3; clear hx_; refine (sOrder _ _ l _ _ HN.out HG.out (HI.out.below rfl T3.out)).mono ?_; rw [HP.out]; rintro e w4 ⟨rfl, hb4⟩; have T4 := Lib.hid (T3.out.trans (hb4.mono T3.out.size)); have c4 := keepC T4.out (by simp) C1; have K4 := True.intro)
                  | (go_at_call 24; have hx_ := K2; clear hx_; refine (sIsSet _ _ _ _ _ _ HN.out hm (HI.out.below rfl T2.out)).mono ?_; rw [HS2.out]; rintro e w3 ⟨rfl, hb3⟩; have T3 := Lib.hid (T2.out.trans (hb3.mono T2.out.size)); have c3 := keepC T3.out (by simp) C1; have K3 := True.intro)
                  | (go_at_call 24; have hx_ := K1; clear hx_; refine (sIsSet _ _ _ _ _ _ HN.out hm (HI.out.below rfl T1.out)).mono ?_; rw [HS.out]; rintro e w2 ⟨rfl, hb2⟩; have T2 := Lib.hid (T1.out.trans (hb2.mono T1.out.size)); have c2 := keepC T2.out (by simp) C1; have K2 := True.intro)
                  | (go_at_call 32; refine (sPrm _ _ _ _ _ HN.out hm (HI.out.below rfl T0.out)).mono ?_; rw [HPM.out]; rintro e w1 ⟨rfl, hb1⟩; have T1 := Lib.hid (T0.out.trans (hb1.mono T0.out.size)); have c1 := keepC T1.out (by simp) C1; have K1 := True.intro))
                go_ret
                exact ⟨by first | rfl | (rw [HKK.out]; rfl), HB.out.trans (T6.out.mono (by simp))⟩
              | false =>
                cases CB with
                | true =>
                  go_enter Tryd.func18, Tryd.ntmps18
                  go_wp2_with (first
                    | (go_at_call 25; have hx_ := K11; clear hx_; refine (D2.out _).mono ?_; rintro e w_ ⟨rfl, rfl⟩; have K12 := True.intro)
                    | (go_at_call 25; have hx_ := K10; clear hx_; refine (D1.out _).mono ?_; rintro e w_ ⟨rfl, rfl⟩; have K11 := True.intro)
                    | (go_at_call 25; have hx_ := K9; clear hx_; refine (D3.out _).mono ?_; rintro e w_ ⟨rfl, rfl⟩; have K10 := True.intro)
                    | (go_at_call 25; have hx_ := K8; clear hx_; refine (D3.out _).mono ?_; rintro e w_ ⟨rfl, rfl⟩; have K9 := True.intro)
                    | (go_at_call 20; have hx_ := K7; clear hx_; refine (sCom _ _ _ _ _ _ _ HN.out hm (HI.out.below rfl T5.out)).mono ?_; rw [HCM.out.1, HCM.out.2]; rintro e w6 ⟨rfl, hb6⟩; have T6 := Lib.hid (T5.out.trans (hb6.mono T5.out.size)); have c6 := keepC T6.out (by simp) C1; have K8 := True.intro)
                    | (go_at_call 25; have hx_ := K6; clear hx_; refine (D2.out _).mono ?_; rintro e w_ ⟨rfl, rfl⟩; have K7 := True.intro)
                    | (go_at_call 25; have hx_ := K5; clear hx_; refine (D1.out _).mono ?_; rintro e w_ ⟨rfl, rfl⟩; have K6 := True.intro)
                    | (go_at_call 33; have hx_ := K4; clear hx_; refine (sSumL _ _ l _ _ u v HU.out HV.out HN.out HG.out (HI.out.below rfl T4.out)).mono ?_; rw [HX.out]; rintro e w5 ⟨rfl, hb5⟩; have T5 := Lib.hid (T4.out.trans (hb5.mono T4.out.size)); have c5 := keepC T5.out (by simp) C1; have K5 := True.intro)
                    | (go_at_call 27; have hx_ := K3; clear hx_; refine (sOrder _ _ l _ _ HN.out HG.out (HI.out.below rfl T3.out)).mono ?_; rw [HP.out]; rintro e w4 ⟨rfl, hb4⟩; have T4 := Lib.hid (T3.out.trans (hb4.mono T3.out.size)); have c4 := keepC T4.out (by simp) C1; have K4 := True.intro)
                    | (go_at_call 24; have hx_ := K2; clear hx_; refine (sIsSet _ _ _ _ _ _ HN.out hm (HI.out.below rfl T2.out)).mono ?_; rw [HS2.out]; rintro e w3 ⟨rfl, hb3⟩; have T3 := Lib.hid (T2.out.trans (hb3.mono T2.out.size)); have c3 := keepC T3.out (by simp) C1; have K3 := True.intro)
                    | (go_at_call 24; have hx_ := K1; clear hx_; refine (sIsSet _ _ _ _ _ _ HN.out hm (HI.out.below rfl T1.out)).mono ?_; rw [HS.out]; rintro e w2 ⟨rfl, hb2⟩; have T2 := Lib.hid (T1.out.trans (hb2.mono T1.out.size)); have c2 := keepC T2.out (by simp) C1; have K2 := True.intro)
                    | (go_at_call 32; refine (sPrm _ _ _ _ _ HN.out hm (HI.out.below rfl T0.out)).mono ?_; rw [HPM.out]; rintro e w1 ⟨rfl, hb1⟩; have T1 := Lib.hid (T0.out.trans (hb1.mono T0.out.size)); have c1 := keepC T1.out (by simp) C1; have K1 := True.intro))
                  go_ret
                  exact ⟨by first | rfl | (rw [HKK.out]; rfl), HB.out.trans (T6.out.mono (by simp))⟩
                | false =>
                  cases B7 with
                  | true =>
                    go_enter Tryd.func18, Tryd.ntmps18
                    go_wp2_with (first
                      | (go_at_call 25; have hx_ := K11; clear hx_; refine (D2.out _).mono ?_; rintro e w_ ⟨rfl, rfl⟩; have K12 := True.intro)
                      | (go_at_call 25; have hx_ := K10; clear hx_; refine (D1.out _).mono ?_; rintro e w_ ⟨rfl, rfl⟩; have K11 := True.intro)
                      | (go_at_call 25; have hx_ := K9; clear hx_; refine (D3.out _).mono ?_; rintro e w_ ⟨rfl, rfl⟩; have K10 := True.intro)
                      | (go_at_call 25; have hx_ := K8; clear hx_; refine (D3.out _).mono ?_; rintro e w_ ⟨rfl, rfl⟩; have K9 := True.intro)
                      | (go_at_call 20; have hx_ := K7; clear hx_; refine (sCom _ _ _ _ _ _ _ HN.out hm (HI.out.below rfl T5.out)).mono ?_; rw [HCM.out.1, HCM.out.2]; rintro e w6 ⟨rfl, hb6⟩; have T6 := Lib.hid (T5.out.trans (hb6.mono T5.out.size)); have c6 := keepC T6.out (by simp) C1; have K8 := True.intro)
                      | (go_at_call 25; have hx_ := K6; clear hx_; refine (D2.out _).mono ?_; rintro e w_ ⟨rfl, rfl⟩; have K7 := True.intro)
                      | (go_at_call 25; have hx_ := K5; clear hx_; refine (D1.out _).mono ?_; rintro e w_ ⟨rfl, rfl⟩; have K6 := True.intro)
                      | (go_at_call 33; have hx_ := K4; clear hx_; refine (sSumL _ _ l _ _ u v HU.out HV.out HN.out HG.out (HI.out.below rfl T4.out)).mono ?_; rw [HX.out]; rintro e w5 ⟨rfl, hb5⟩; have T5 := Lib.hid (T4.out.trans (hb5.mono T4.out.size)); have c5 := keepC T5.out (by simp) C1; have K5 := True.intro)
                      | (go_at_call 27; have hx_ := K3; clear hx_; refine (sOrder _ _ l _ _ HN.out HG.out (HI.out.below rfl T3.out)).mono ?_; rw [HP.out]; rintro e w4 ⟨rfl, hb4⟩; have T4 := Lib.hid (T3.out.trans (hb4.mono T3.out.size)); have c4 := keepC T4.out (by simp) C1; have K4 := True.intro)
                      | (go_at_call 24; have hx_ := K2; clear hx_; refine (sIsSet _ _ _ _ _ _ HN.out hm (HI.out.below rfl T2.out)).mono ?_; rw [HS2.out]; rintro e w3 ⟨rfl, hb3⟩; have T3 := Lib.hid (T2.out.trans (hb3.mono T2.out.size)); have c3 := keepC T3.out (by simp) C1; have K3 := True.intro)
                      | (go_at_call 24; have hx_ := K1; clear hx_; refine (sIsSet _ _ _ _ _ _ HN.out hm (HI.out.below rfl T1.out)).mono ?_; rw [HS.out]; rintro e w2 ⟨rfl, hb2⟩; have T2 := Lib.hid (T1.out.trans (hb2.mono T1.out.size)); have c2 := keepC T2.out (by simp) C1; have K2 := True.intro)
                      | (go_at_call 32; refine (sPrm _ _ _ _ _ HN.out hm (HI.out.below rfl T0.out)).mono ?_; rw [HPM.out]; rintro e w1 ⟨rfl, hb1⟩; have T1 := Lib.hid (T0.out.trans (hb1.mono T0.out.size)); have c1 := keepC T1.out (by simp) C1; have K1 := True.intro))
                    go_ret
                    exact ⟨by first | rfl | (rw [HKK.out]; rfl), HB.out.trans (T6.out.mono (by simp))⟩
                  | false =>
                    go_enter Tryd.func18, Tryd.ntmps18
                    go_wp2_with (first
                      | (go_at_call 25; have hx_ := K11; clear hx_; refine (D2.out _).mono ?_; rintro e w_ ⟨rfl, rfl⟩; have K12 := True.intro)
                      | (go_at_call 25; have hx_ := K10; clear hx_; refine (D1.out _).mono ?_; rintro e w_ ⟨rfl, rfl⟩; have K11 := True.intro)
                      | (go_at_call 25; have hx_ := K9; clear hx_; refine (D3.out _).mono ?_; rintro e w_ ⟨rfl, rfl⟩; have K10 := True.intro)
                      | (go_at_call 25; have hx_ := K8; clear hx_; refine (D3.out _).mono ?_; rintro e w_ ⟨rfl, rfl⟩; have K9 := True.intro)
                      | (go_at_call 20; have hx_ := K7; clear hx_; refine (sCom _ _ _ _ _ _ _ HN.out hm (HI.out.below rfl T5.out)).mono ?_; rw [HCM.out.1, HCM.out.2]; rintro e w6 ⟨rfl, hb6⟩; have T6 := Lib.hid (T5.out.trans (hb6.mono T5.out.size)); have c6 := keepC T6.out (by simp) C1; have K8 := True.intro)
                      | (go_at_call 25; have hx_ := K6; clear hx_; refine (D2.out _).mono ?_; rintro e w_ ⟨rfl, rfl⟩; have K7 := True.intro)
                      | (go_at_call 25; have hx_ := K5; clear hx_; refine (D1.out _).mono ?_; rintro e w_ ⟨rfl, rfl⟩; have K6 := True.intro)
                      | (go_at_call 33; have hx_ := K4; clear hx_; refine (sSumL _ _ l _ _ u v HU.out HV.out HN.out HG.out (HI.out.below rfl T4.out)).mono ?_; rw [HX.out]; rintro e w5 ⟨rfl, hb5⟩; have T5 := Lib.hid (T4.out.trans (hb5.mono T4.out.size)); have c5 := keepC T5.out (by simp) C1; have K5 := True.intro)
                      | (go_at_call 27; have hx_ := K3; clear hx_; refine (sOrder _ _ l _ _ HN.out HG.out (HI.out.below rfl T3.out)).mono ?_; rw [HP.out]; rintro e w4 ⟨rfl, hb4⟩; have T4 := Lib.hid (T3.out.trans (hb4.mono T3.out.size)); have c4 := keepC T4.out (by simp) C1; have K4 := True.intro)
                      | (go_at_call 24; have hx_ := K2; clear hx_; refine (sIsSet _ _ _ _ _ _ HN.out hm (HI.out.below rfl T2.out)).mono ?_; rw [HS2.out]; rintro e w3 ⟨rfl, hb3⟩; have T3 := Lib.hid (T2.out.trans (hb3.mono T2.out.size)); have c3 := keepC T3.out (by simp) C1; have K3 := True.intro)
                      | (go_at_call 24; have hx_ := K1; clear hx_; refine (sIsSet _ _ _ _ _ _ HN.out hm (HI.out.below rfl T1.out)).mono ?_; rw [HS.out]; rintro e w2 ⟨rfl, hb2⟩; have T2 := Lib.hid (T1.out.trans (hb2.mono T1.out.size)); have c2 := keepC T2.out (by simp) C1; have K2 := True.intro)
                      | (go_at_call 32; refine (sPrm _ _ _ _ _ HN.out hm (HI.out.below rfl T0.out)).mono ?_; rw [HPM.out]; rintro e w1 ⟨rfl, hb1⟩; have T1 := Lib.hid (T0.out.trans (hb1.mono T0.out.size)); have c1 := keepC T1.out (by simp) C1; have K1 := True.intro))
                    go_ret
                    exact ⟨by first | rfl | (rw [HKK.out]; rfl), HB.out.trans (T6.out.mono (by simp))⟩
end Go.Proofs.YtfkleihnafeoeaaDoor
