/- Plain mathematics: the document's and the program's reading of a text as a set agree. -/
import Derived.Test.YthoiabdndaoflabDoorParSPure
namespace Go.Proofs.YthoiabdndaoflabDoor
/-- The word none. -/
def noneT : List UInt8 := [110, 111, 110, 101]
/-- What the document's reading of a set does in its loop. -/
def specSL (l : List Int) (cur : List UInt8) (a : Nat) : List UInt8 → Option Nat
  | [] => if (accB cur && isE l (resV cur)) = true then some (a ||| 2 ^ (resV cur).toNat) else none
  | c :: r => if c = 44 then (if (accB cur && isE l (resV cur)) = true then specSL l [] (a ||| 2 ^ (resV cur).toNat) r else none) else specSL l (cur ++ [c]) a r
def okP (l : List Int) (P : List (List UInt8)) : Bool := P.all fun p => accB p && isE l (resV p)
theorem specSL_parts (l : List Int) (cur : List UInt8) (a : Nat) (s : List UInt8) :
    specSL l cur a s = if okP l (partsC 44 cur s) = true then some ((partsC 44 cur s).foldl (fun a p => a ||| 2 ^ (resV p).toNat) a) else none := by
  induction s generalizing cur a with
  | nil =>
    simp only [specSL, partsC, okP, List.all_cons, List.all_nil, Bool.and_true, List.foldl_cons, List.foldl_nil]
  | cons c r ih =>
    unfold specSL partsC
    split
    · cases ha : (accB cur && isE l (resV cur)) with
      | true =>
        rw [if_pos rfl, ih]
        simp only [okP, List.all_cons, ha, Bool.true_and, List.foldl_cons]
        rfl
      | false =>
        rw [if_neg (by decide)]
        simp only [okP, List.all_cons, ha, Bool.false_and]
        rfl
    · rw [ih]
/-- The document's reading. -/
def specPS (l : List Int) (s : List UInt8) : Option Nat :=
  if s = noneT then (if grpB l = true then some 0 else none) else if 80 < s.length then none else
    match specSL l [] 0 s with
    | none => none
    | some a => if fmtS l a = s then some a else none
/-- The program's reading. -/
def implPS (l : List Int) (s : List UInt8) : Option Nat :=
  if s = noneT then (if grpB l = true then some 0 else none) else
    match splR 44 24 s with
    | none => none
    | some vs => if srt vs = true then (if setB l vs = true then setS l vs vs.length else none) else none
theorem parts_app (c : UInt8) (q : List UInt8) (hq : ∀ x ∈ q, x ≠ c) (cur r : List UInt8) : partsC c cur (q ++ r) = partsC c (cur ++ q) r := by
  induction q generalizing cur with
  | nil => simp
  | cons y t ih =>
    rw [List.cons_append, partsC, if_neg (hq y (by simp)), ih (fun x hx => hq x (by simp [hx]))]
    simp
theorem parts_tail (c : UInt8) (Q : List (List UInt8)) (hQ : ∀ q ∈ Q, ∀ x ∈ q, x ≠ c) (cur : List UInt8) : partsC c cur (Lib.joinTail [c] Q) = cur :: Q := by
  induction Q generalizing cur with
  | nil => simp [Lib.joinTail, partsC]
  | cons y t ih =>
    have e : Lib.joinTail [c] (y :: t) = c :: (y ++ Lib.joinTail [c] t) := by simp [Lib.joinTail]
    rw [e, partsC, if_pos rfl, parts_app c y (hQ y (by simp)), List.nil_append, ih (fun q hq => hQ q (by simp [hq]))]
theorem parts_join (c : UInt8) (Q : List (List UInt8)) (hne : Q ≠ []) (hQ : ∀ q ∈ Q, ∀ x ∈ q, x ≠ c) : partsC c [] (Lib.join Q [c]) = Q := by
  match Q, hne with
  | x :: t, _ =>
    rw [Lib.join_cons, parts_app c x (hQ x (by simp)), List.nil_append, parts_tail c t (fun q hq => hQ q (by simp [hq]))]
theorem small_digits {n : Int} (h0 : 0 ≤ n) (h1 : n ≤ 24) : (Lib.itoa n).length ≤ 2 := by
  obtain ⟨u, rfl⟩ : ∃ u : Nat, n = u := ⟨n.toNat, by omega⟩
  rw [Lib.itoa_nonneg, Lib.decDigits_length]
  by_cases h : u < 10
  · rw [Lib.nDigits_small h]; omega
  · rw [Lib.nDigits_big h, Lib.nDigits_small (by omega)]; omega
theorem acc_small {n : Int} (h0 : 0 ≤ n) (h1 : n ≤ 24) : accB (Lib.itoa n) = true ∧ resV (Lib.itoa n) = n ∧ ∀ x ∈ Lib.itoa n, x ≠ 44 := by
  have hl := small_digits h0 h1
  have hv := (itoa_shape n).1
  have ha : accB (Lib.itoa n) = true := by
    unfold accB
    have := cnt_le (Lib.itoa n)
    rw [hv]
    simp; omega
  refine ⟨ha, by unfold resV; rw [if_pos ha, hv], fun x hx e => ?_⟩
  obtain ⟨u, rfl⟩ : ∃ u : Nat, n = u := ⟨n.toNat, by omega⟩
  rw [Lib.itoa_nonneg] at hx
  have := (dec_facts u).2 x (by simpa using hx)
  rw [e] at this
  revert this
  decide
theorem tail_short (c : UInt8) : ∀ (r : List Int), (∀ x ∈ r, 0 ≤ x ∧ x ≤ 24) → (Lib.joinTail [c] (r.map Lib.itoa)).length ≤ 3 * r.length
  | [], _ => by simp [Lib.joinTail]
  | x :: t, h => by
    have h1 := tail_short c t (fun y hy => h y (by simp [hy]))
    have h2 := small_digits (h x (by simp)).1 (h x (by simp)).2
    have e : Lib.joinTail [c] ((x :: t).map Lib.itoa) = [c] ++ Lib.itoa x ++ Lib.joinTail [c] (t.map Lib.itoa) := by simp [Lib.joinTail]
    rw [e]
    simp only [List.length_append, List.length_cons, List.length_nil]
    omega
theorem join_short (c : UInt8) (l : List Int) (h : ∀ x ∈ l, 0 ≤ x ∧ x ≤ 24) : (joinC c l).length ≤ 3 * l.length := by
  match l, h with
  | [], _ => simp [joinC, Lib.join]
  | x :: t, h =>
    have h1 := tail_short c t (fun y hy => h y (by simp [hy]))
    have h2 := small_digits (h x (by simp)).1 (h x (by simp)).2
    unfold joinC
    rw [List.map_cons, Lib.join_cons, List.length_append]
    simp only [List.length_cons]
    omega
theorem fold_bit (P : List (List UInt8)) (a i : Nat) : (P.foldl (fun a p => a ||| 2 ^ (resV p).toNat) a).testBit i = (a.testBit i || decide (∃ p ∈ P, (resV p).toNat = i)) := by
  induction P generalizing a with
  | nil => simp
  | cons x t ih =>
    rw [List.foldl_cons, ih, Nat.testBit_or, Nat.testBit_two_pow, Bool.or_assoc]
    congr 1
    by_cases h1 : (resV x).toNat = i
    · have : ∃ p ∈ x :: t, (resV p).toNat = i := ⟨x, by simp, h1⟩
      simp [h1]
    · simp [h1]
theorem at_of {V : List Int} {x : Int} (h : x ∈ V) : ∃ j, j < V.length ∧ V.getD j 0 = x := by
  obtain ⟨j, hj, e⟩ := List.getElem_of_mem h
  exact ⟨j, hj, by simp [List.getD, hj, e]⟩
theorem of_at {V : List Int} {j : Nat} (h : j < V.length) : V.getD j 0 ∈ V := by
  simp only [List.getD, List.getElem?_eq_getElem h, Option.getD_some]; exact List.getElem_mem h
theorem impl_spec {l : List Int} {s : List UInt8} {a : Nat} (h : implPS l s = some a) : specPS l s = some a := by
  unfold implPS at h
  unfold specPS
  by_cases hn : s = noneT
  · rw [if_pos hn] at h ⊢; exact h
  · rw [if_neg hn] at h ⊢
    have hj := joinC_parts 44 [] s
    simp only [List.nil_append] at hj
    obtain ⟨f1, f2⟩ := splitC_few 44 24 s
    unfold splR at h
    by_cases hl : (Lib.splitK [44] 0 24 s).length ≤ 24
    · rw [if_pos hl] at h
      have hP : Lib.splitK [44] 0 24 s = partsC 44 [] s := by
        apply f1
        rcases Nat.lt_or_ge (24 + 1) (partsC 44 [] s).length with h2 | h2
        · have := f2 h2; omega
        · exact h2
      rw [hP] at h hl
      have hne := partsC_ne 44 [] s
      generalize partsC 44 [] s = P at *
      cases hacc : allAcc P with
      | false => rw [hacc] at h; simp at h
      | true =>
        rw [hacc, if_pos rfl] at h
        simp only at h
        obtain ⟨V, hV⟩ : ∃ V, P.map resV = V := ⟨_, rfl⟩
        rw [hV] at h
        cases hs : srt V with
        | false => rw [hs] at h; simp at h
        | true =>
          rw [hs, if_pos rfl] at h
          cases hb : setB l V with
          | false => rw [hb] at h; simp at h
          | true =>
            rw [hb, if_pos rfl] at h
            have hg : grpB l = true := by
              unfold setB at hb
              simp only [Bool.and_eq_true] at hb
              exact hb.2
            obtain ⟨hS, hL⟩ := setS_list hs h hg
            obtain ⟨i1, i2, i3⟩ := setS_info (Nat.le_refl _) h
            have hVne : V ≠ [] := by rw [← hV]; simpa using hne
            have htx : joinC 44 V = s := by
              unfold joinC
              rw [← hV, acc_texts hacc, hj]
            have hmemE : ∀ x ∈ V, isE l x = true := fun x hx => by
              obtain ⟨j, h1, h2⟩ := at_of hx
              rw [← h2]; exact i1 j h1
            have hVl : V.length ≤ 24 := by rw [← hV, List.length_map]; exact hl
            have hlen : s.length ≤ 80 := by
              rw [← htx]
              have := join_short 44 V (fun x hx => by
                obtain ⟨_, e0, _, e1⟩ := isE_true (hmemE x hx)
                omega)
              omega
            have hok : okP l P = true := by
              unfold okP
              rw [List.all_eq_true]
              intro p hp
              unfold allAcc at hacc
              rw [List.all_eq_true] at hacc
              rw [Bool.and_eq_true]
              exact ⟨hacc p hp, hmemE _ (by rw [← hV]; exact List.mem_map_of_mem hp)⟩
            rw [if_neg (by omega), specSL_parts]
            have hPP : partsC 44 [] s = P := by
              have := parts_join 44 P hne (fun q hq x hx => by
                unfold allAcc at hacc
                rw [List.all_eq_true] at hacc
                have h1 := acc_text (hacc q hq)
                have h2 : resV q ∈ V := by rw [← hV]; exact List.mem_map_of_mem hq
                obtain ⟨_, e0, _, e1⟩ := isE_true (hmemE _ h2)
                rw [← h1] at hx
                exact (acc_small e0 (by omega)).2.2 x hx)
              rw [hj] at this
              exact this
            rw [hPP, if_pos hok]
            have hfold : P.foldl (fun a p => a ||| 2 ^ (resV p).toNat) 0 = a := by
              apply Nat.eq_of_testBit_eq
              intro i
              rw [fold_bit, i3]
              simp only [Nat.zero_testBit, Bool.false_or]
              congr 1
              apply propext
              constructor
              · rintro ⟨p, hp, e⟩
                have h2 : resV p ∈ V := by rw [← hV]; exact List.mem_map_of_mem hp
                obtain ⟨j, h3, h4⟩ := at_of h2
                obtain ⟨_, e0, _, _⟩ := isE_true (hmemE _ h2)
                exact ⟨j, h3, by omega⟩
              · rintro ⟨j, h3, h4⟩
                have h2 := of_at h3
                rw [← hV, List.mem_map] at h2
                obtain ⟨p, hp, e⟩ := h2
                exact ⟨p, hp, by rw [e, hV, h4]; omega⟩
            rw [hfold]
            simp only
            have hf : fmtS l a = s := by
              unfold fmtS
              rw [if_pos hS, hL, if_neg hVne, htx]
            rw [if_pos hf]
    · rw [if_neg hl] at h
      simp at h
theorem spec_impl {l : List Int} {s : List UInt8} {a : Nat} (h : specPS l s = some a) : implPS l s = some a := by
  unfold specPS at h
  unfold implPS
  by_cases hn : s = noneT
  · rw [if_pos hn] at h ⊢; exact h
  · rw [if_neg hn] at h ⊢
    by_cases h80 : 80 < s.length
    · rw [if_pos h80] at h; cases h
    · rw [if_neg h80, specSL_parts] at h
      obtain ⟨f1, _⟩ := splitC_few 44 24 s
      have hne := partsC_ne 44 [] s
      obtain ⟨P, hP⟩ : ∃ P, partsC 44 [] s = P := ⟨_, rfl⟩
      rw [hP] at h f1 hne
      cases hok : okP l P with
      | false => rw [hok] at h; simp at h
      | true =>
        rw [hok, if_pos rfl] at h
        simp only at h
        obtain ⟨A, hA⟩ : ∃ A, P.foldl (fun a p => a ||| 2 ^ (resV p).toNat) 0 = A := ⟨_, rfl⟩
        rw [hA] at h
        by_cases hf : fmtS l A = s
        · rw [if_pos hf] at h
          obtain rfl := Option.some.inj h
          unfold okP at hok
          rw [List.all_eq_true] at hok
          have hE : ∀ p ∈ P, isE l (resV p) = true := fun p hp => by
            have := hok p hp
            rw [Bool.and_eq_true] at this
            exact this.2
          have hg : grpB l = true := by
            match P, hne, hE with
            | x :: _, _, hE => exact (isE_true (hE x (by simp))).1
          have hbit : ∀ i, A.testBit i = decide (∃ p ∈ P, (resV p).toNat = i) := fun i => by
            rw [← hA, fold_bit]; simp
          have hp := (ords_grp hg).prod
          have hbl : A < 2 ^ (prodI l).toNat := by
            apply Nat.lt_pow_two_of_testBit
            intro i hi
            rw [hbit]
            simp only [decide_eq_false_iff_not]
            rintro ⟨p, hpm, e⟩
            obtain ⟨_, e0, e2, _⟩ := isE_true (hE p hpm)
            omega
          have hS : isS l (A : Int) = true := by
            simp only [isS, hg, fullN_nat, Bool.true_and, Bool.and_eq_true, decide_eq_true_eq]
            generalize 2 ^ (prodI l).toNat = N at *
            omega
          unfold fmtS at hf
          rw [if_pos hS] at hf
          have hWne : lstE l A ≠ [] := fun e => by
            rw [if_pos e] at hf; exact hn hf.symm
          rw [if_neg hWne] at hf
          obtain ⟨hsrt, hset⟩ := lst_setS hS
          have hWl := lstE_len l A
          have hWE : ∀ x ∈ lstE l A, 0 ≤ x ∧ x ≤ 24 := fun x hx => by
            unfold lstE at hx
            rw [if_pos hS, List.mem_map] at hx
            obtain ⟨y, hy, rfl⟩ := hx
            have := (upK_mem hy).1
            omega
          obtain ⟨W, hW⟩ : ∃ W, lstE l A = W := ⟨_, rfl⟩
          rw [hW] at hf hWne hsrt hset hWl hWE
          have hPW : P = W.map Lib.itoa := by
            rw [← hP, ← hf]
            unfold joinC
            exact parts_join 44 _ (by simpa using hWne) (fun q hq x hx => by
              rw [List.mem_map] at hq
              obtain ⟨n, hn1, rfl⟩ := hq
              exact (acc_small (hWE n hn1).1 (hWE n hn1).2).2.2 x hx)
          have hPl : P.length ≤ 24 := by rw [hPW, List.length_map]; exact hWl
          have hacc : allAcc P = true := by
            unfold allAcc
            rw [List.all_eq_true]
            intro p hp
            rw [hPW, List.mem_map] at hp
            obtain ⟨n, hn1, rfl⟩ := hp
            exact (acc_small (hWE n hn1).1 (hWE n hn1).2).1
          have hVW : P.map resV = W := by
            rw [hPW, List.map_map]
            conv => rhs; rw [← List.map_id W]
            apply List.map_congr_left
            intro n hn1
            exact (acc_small (hWE n hn1).1 (hWE n hn1).2).2.1
          unfold splR
          rw [f1 (by omega), if_pos hPl, hacc, if_pos rfl, hVW]
          simp only
          rw [hsrt, if_pos rfl]
          have hb : setB l W = true := by unfold setB; rw [hset, hg]; rfl
          rw [hb, if_pos rfl, hset]
        · rw [if_neg hf] at h; cases h
theorem both_sets (l : List Int) (s : List UInt8) : implPS l s = specPS l s := by
  cases h : implPS l s with
  | some a => rw [impl_spec h]
  | none =>
    cases h2 : specPS l s with
    | none => rfl
    | some a => rw [spec_impl h2] at h; cases h
end Go.Proofs.YthoiabdndaoflabDoor
