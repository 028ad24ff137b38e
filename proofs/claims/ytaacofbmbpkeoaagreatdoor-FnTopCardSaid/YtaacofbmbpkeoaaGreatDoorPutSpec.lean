/- The document's reading of chapter 5: a number put into an ascending list, once. -/
import Derived.Test.YtaacofbmbpkeoaaGreatDoorMGAO
import Derived.Test.YtaacofbmbpkeoaaGreatDoorMGAA
import Derived.Test.YtaacofbmbpkeoaaGreatDoorMGAC
import Derived.Deep.RegionHeld3
import Derived.Deep.RegionLaw
namespace Go.Proofs.YtaacofbmbpkeoaaGreatDoor
open Go.RowKit
set_option maxRecDepth 1000000
def NL (L : List Nat) : List Int := L.map fun (x : Nat) => (x : Int)
theorem NL_len (L : List Nat) : (NL L).length = L.length := by simp [NL]
theorem NL_at (L : List Nat) (k : Nat) (h : k < L.length) : (NL L).getD k 0 = ((L.getD k 0 : Nat) : Int) := by simp [NL, List.getD, h]
/-- Ascending. -/
def Srt (L : List Nat) : Prop := L.Pairwise (· < ·)
theorem Srt.at {L : List Nat} (h : Srt L) {i j : Nat} (hij : i < j) (hj : j < L.length) : L.getD i 0 < L.getD j 0 := by
  have h2 := List.pairwise_iff_getElem.1 h i j (by omega) hj hij
  have hi : i < L.length := by omega
  simpa [List.getD, hi, hj] using h2
theorem getD_mem {L : List Nat} {j : Nat} (h : j < L.length) : L.getD j 0 ∈ L := by
  simp [List.getD, h]
theorem mem_getD {L : List Nat} {x : Nat} (h : x ∈ L) : ∃ j, j < L.length ∧ L.getD j 0 = x := by
  obtain ⟨j, hj, e⟩ := List.getElem_of_mem h
  exact ⟨j, hj, by simpa [List.getD, hj] using e⟩
theorem Srt.len {L : List Nat} (h : Srt L) (hb : ∀ x ∈ L, x < 2 ^ 24) : L.length ≤ 2 ^ 24 := by
  have := len_le_of_sub L (List.range (2 ^ 24)) (h.imp (fun h => Nat.ne_of_lt h)) (fun x hx => List.mem_range.2 (hb x hx))
  rwa [List.length_range] at this
/-- L' is L with n, once, ascending. -/
def PutOf (L : List Nat) (n : Nat) (L' : List Nat) : Prop := Srt L' ∧ ∀ m, m ∈ L' ↔ m ∈ L ∨ m = n
theorem put_same {L : List Nat} {n t : Nat} (h : Srt L) (ht : t < L.length) (e : L.getD t 0 = n) : PutOf L n L :=
  ⟨h, fun m => ⟨.inl, fun h => h.elim id (fun h => by rw [h, ← e]; exact getD_mem ht)⟩⟩
theorem put_new {L : List Nat} {n k : Nat} (h : Srt L) (hk : k ≤ L.length) (hup : ∀ j, k ≤ j → j < L.length → n < L.getD j 0) (hlo : ∀ j, j < k → L.getD j 0 < n) : PutOf L n (L.take k ++ [n] ++ L.drop k) := by
  have e : ∀ m, m ∈ L ↔ m ∈ L.take k ∨ m ∈ L.drop k := fun m => by rw [← List.mem_append, List.take_append_drop]
  have ht : ∀ m ∈ L.take k, m < n := fun m hm => by
    obtain ⟨j, hj, e⟩ := mem_getD hm
    rw [List.length_take] at hj
    have := hlo j (by omega)
    rw [← e]
    simp only [List.getD, List.getElem?_take] at *
    split
    · exact this
    · omega
  have hd : ∀ m ∈ L.drop k, n < m := fun m hm => by
    obtain ⟨j, hj, e⟩ := mem_getD hm
    rw [List.length_drop] at hj
    have := hup (k + j) (by omega) (by omega)
    rw [← e]
    simpa [List.getD] using this
  refine ⟨?_, fun m => ?_⟩
  · unfold Srt
    rw [List.pairwise_append, List.pairwise_append]
    refine ⟨⟨List.Pairwise.sublist (List.take_sublist _ _) h, List.pairwise_singleton _ _, fun a ha b hb => ?_⟩, List.Pairwise.sublist (List.drop_sublist _ _) h, fun a ha b hb => ?_⟩
    · rw [List.mem_singleton] at hb; rw [hb]; exact ht a ha
    · have h2 := hd b hb
      rcases List.mem_append.1 ha with h1 | h1
      · exact Nat.lt_trans (ht a h1) h2
      · rw [List.mem_singleton] at h1; omega
  · rw [List.mem_append, List.mem_append, List.mem_singleton, e m]
    constructor
    · rintro ((h1 | h1) | h1)
      · exact .inl (.inl h1)
      · exact .inr h1
      · exact .inl (.inr h1)
    · rintro ((h1 | h1) | h1)
      · exact .inl (.inl h1)
      · exact .inr h1
      · exact .inl (.inr h1)
/-- An ascending row of sets that the call owns. -/
def RowL (w : World) (B : Nat) (v : Value) (L : List Nat) : Prop := (∃ g cap, v = .slice (some ⟨g, 0, none⟩) L.length cap) ∧ w.ownsRow B 3 1 v L.length ((NL L).map (Value.int .i64)) ∧ Srt L ∧ ∀ x ∈ L, x < 2 ^ 24
theorem RowL.on {w w' : World} {B : Nat} {v : Value} {L : List Nat} (h : RowL w B v L) (hb : Below w.heap.size w w') : RowL w' B v L := ⟨h.1, owns_below h.2.1 hb, h.2.2⟩
theorem own_some {w : World} {B n : Nat} {v : Value} {xs : List Value} (h : w.ownsRow B 3 1 v n xs) (hn : 0 < n) : ∃ g cap, v = .slice (some ⟨g, 0, none⟩) n cap := by
  rcases h.2 with ⟨_, h3⟩ | ⟨g, cap, _, h4, _⟩
  · omega
  · exact ⟨g, cap, h4⟩
theorem news_take {W : World} {g : Nat} {l : List Int} (hi : Ints W (some ⟨g, 0, none⟩) l) (K : Nat) : ∀ (j : Nat) (u : Value), ((l.take K).map (Value.int .i64))[j]? = some u → W.cell? ((⟨g, 0, none⟩ : Addr).add j) = some u := by
  intro j u hu
  rcases hi with h0 | ⟨b, off, e, _, hc⟩
  · subst h0; simp at hu
  · cases e
    rw [List.getElem?_map, List.getElem?_take] at hu
    split at hu
    · by_cases hj : j < l.length
      · have := hc j hj
        rw [show (⟨g, 0, none⟩ : Addr).add j = ⟨g, 0 + j, none⟩ by simp [Addr.add]; try omega, this]
        simpa [List.getD, hj] using hu
      · rw [List.getElem?_eq_none (by omega)] at hu; cases hu
    · cases hu
theorem news_drop {W : World} {g : Nat} {l : List Int} (hi : Ints W (some ⟨g, 0, none⟩) l) (K : Nat) : ∀ (j : Nat) (u : Value), ((l.drop K).map (Value.int .i64))[j]? = some u → W.cell? ((⟨g, K, none⟩ : Addr).add j) = some u := by
  intro j u hu
  rcases hi with h0 | ⟨b, off, e, _, hc⟩
  · subst h0; simp at hu
  · cases e
    rw [List.getElem?_map, List.getElem?_drop] at hu
    by_cases hj : K + j < l.length
    · have := hc (K + j) hj
      rw [show (⟨g, K, none⟩ : Addr).add j = ⟨g, 0 + (K + j), none⟩ by simp [Addr.add]; try omega, this]
      simpa [List.getD, hj] using hu
    · rw [List.getElem?_eq_none (by omega)] at hu; cases hu
theorem news_one {W : World} {b : Nat} {x : Value} (h : W.cell? ⟨b, 0, none⟩ = some x) : ∀ (j : Nat) (u : Value), [x][j]? = some u → W.cell? ((⟨b, 0, none⟩ : Addr).add j) = some u := by
  intro j u hu
  match j, hu with
  | 0, hu => simp at hu; subst hu; simpa [Addr.add] using h
theorem put_vals (L : List Nat) (n K : Nat) : (([] : List Value) ++ ((NL L).take K).map (Value.int .i64) ++ [.int .i64 (n : Nat)]) ++ ((NL L).drop K).map (Value.int .i64) = (NL (L.take K ++ [n] ++ L.drop K)).map (Value.int .i64) := by
  simp [NL, List.map_take, List.map_drop]
theorem row_put {w : World} {B B0 : Nat} {v : Value} {L : List Nat} {n K len : Nat} (h24 : (∀ x ∈ L, x < 2 ^ 24) ∧ n < 2 ^ 24 ∧ B ≤ B0) (hp : PutOf L n (L.take K ++ [n] ++ L.drop K)) (hl : L.length = len ∧ K ≤ len)
    (ho : w.ownsRow B0 3 1 v (0 + K + 1 + (len - K)) (([] ++ ((NL L).take K).map (Value.int .i64) ++ [.int .i64 (n : Nat)]) ++ ((NL L).drop K).map (Value.int .i64))) : RowL w B v (L.take K ++ [n] ++ L.drop K) := by
  have e : (L.take K ++ [n] ++ L.drop K).length = 0 + K + 1 + (len - K) := by
    have := hl.1; have := hl.2
    simp; omega
  rw [put_vals, ← e] at ho
  refine ⟨own_some ho (by rw [e]; omega), Joins.ownsRow_le ho h24.2.2, hp.1, fun x hx => ?_⟩
  rcases (hp.2 x).1 hx with h | h
  · exact h24.1 x h
  · rw [h]; exact h24.2.1
set_option maxHeartbeats 8000000 in
theorem sPut (w : World) (B : Nat) (v : Value) (L : List Nat) (n : Nat) (hB : B ≤ w.heap.size) (h : RowL w B v L) (hn : n < 2 ^ 24) :
    Calls Tryz.prog 115 #[v, .int .i64 n] w fun e w' => ∃ (v' : Value) (L' : List Nat), e = .returned v' ∧ PutOf L n L' ∧ RowL w' B v' L' ∧ Below w.heap.size w w' := by
  obtain ⟨i0, hi0, hz0, hz1, hz2⟩ := info_parts intInfo
  have HRL := Lib.hid h
  obtain ⟨⟨g, cap, rfl⟩, ho, hs, hlt⟩ := h
  have HI := Lib.hid (own_ints' (NL_len L).symm ho)
  have HS := Lib.hid hs
  have HP24 := Lib.hid (And.intro hlt (And.intro hn hB))
  have HLT := Lib.hid (fun t (ht : t < L.length) => hlt (L.getD t 0) (getD_mem ht))
  have hl24 : L.length ≤ 16777216 := hs.len hlt
  have hcap : L.length ≤ cap := by
    rcases ho.2 with ⟨h3, _⟩ | ⟨g', cap', _, h4, _, _, h7, _⟩
    · cases h3
    · cases h4; exact h7
  have hn24 : n < 16777216 := hn
  obtain ⟨len, HLE⟩ : ∃ len, Hid (L.length = len) := ⟨_, Lib.hid rfl⟩
  rw [HLE.out] at hl24 hcap HRL
  rw [HLE.out]
  clear ho hs hlt hn
  go_enter Tryz.func115, Tryz.ntmps115
  go_wp2
  go_loopw [5] (fun i wr => ∃ k : Nat, k ≤ len ∧ i = .int .i64 k ∧ Hid (∀ j, k ≤ j → j < L.length → n < L.getD j 0) ∧ w = wr) (fun i _ => (intOf i).toNat)
  case atStart => exact ⟨len, Nat.le_refl _, rfl, Lib.hid (fun j h1 h2 => absurd h2 (by have := HLE.out; omega)), rfl⟩
  case round =>
    obtain ⟨k, hk, rfl, HUP, rfl⟩ := hrel
    cases k with
    | zero =>
      have HP := Lib.hid (put_new HS.out (Nat.zero_le _) HUP.out (fun j hj => absurd hj (by omega)))
      go_upto_region 6 with fail
      refine wp_region_held_drew (S := fun _ => True) (by kernel_rfl) trivial (fun hHeld => ?_)
      refine wpAnyH_take (i := 1) (oi := _) (v := ?_) rfl (by as_aux_lemma => kernel_rfl) (by as_aux_lemma => kernel_rfl) (by as_aux_lemma => kernel_rfl) (fun _ _ _ h => h) (Or.inl ⟨by rfl, ?_⟩) (by assumption) ?_
      rotate_left
      · intro W' hSw
        try dsimp only at hSw
        simp only [List.getElem_toArray, List.getElem_cons_succ, List.getElem_cons_zero]
        go_simp
        try with_reducible rfl
      try simp only [Act.put, List.getElem_toArray, List.getElem_cons_succ, List.getElem_cons_zero, List.setIfInBounds_toArray, List.set_cons_zero, List.set_cons_succ]
      refine wpAnyH_take (i := 2) (oi := _) (v := ?_) rfl (by as_aux_lemma => kernel_rfl) (by as_aux_lemma => kernel_rfl) (by as_aux_lemma => kernel_rfl) (fun _ _ _ h => h) (Or.inl ⟨by rfl, ?_⟩) (by assumption) ?_
      rotate_left
      · intro W' hSw
        try dsimp only at hSw
        simp only [List.getElem_toArray, List.getElem_cons_succ, List.getElem_cons_zero]
        go_simp
        try with_reducible rfl
      try simp only [Act.put, List.getElem_toArray, List.getElem_cons_succ, List.getElem_cons_zero, List.setIfInBounds_toArray, List.set_cons_zero, List.set_cons_succ]
      refine wpAnyH_take (i := 3) (oi := _) (v := ?_) rfl (by as_aux_lemma => kernel_rfl) (by as_aux_lemma => kernel_rfl) (by as_aux_lemma => kernel_rfl) (fun _ _ _ h => h) (Or.inl ⟨by rfl, ?_⟩) (by assumption) ?_
      rotate_left
      · intro W' hSw
        try dsimp only at hSw
        simp only [List.getElem_toArray, List.getElem_cons_succ, List.getElem_cons_zero]
        go_simp
        try with_reducible rfl
      try simp only [Act.put, List.getElem_toArray, List.getElem_cons_succ, List.getElem_cons_zero, List.setIfInBounds_toArray, List.set_cons_zero, List.set_cons_succ]
      refine wpAnyH_take (i := 5) (oi := _) (v := ?_) rfl (by as_aux_lemma => kernel_rfl) (by as_aux_lemma => kernel_rfl) (by as_aux_lemma => kernel_rfl) (fun _ _ _ h => h) (Or.inl ⟨by rfl, ?_⟩) (by assumption) ?_
      rotate_left
      · intro W' hSw
        try dsimp only at hSw
        simp only [List.getElem_toArray, List.getElem_cons_succ, List.getElem_cons_zero]
        go_simp
        try with_reducible rfl
      try simp only [Act.put, List.getElem_toArray, List.getElem_cons_succ, List.getElem_cons_zero, List.setIfInBounds_toArray, List.set_cons_zero, List.set_cons_succ]
      refine wpAnyH_take (i := 8) (oi := _) (v := ?_) rfl (by as_aux_lemma => kernel_rfl) (by as_aux_lemma => kernel_rfl) (by as_aux_lemma => kernel_rfl) (fun _ _ _ h => h) (Or.inl ⟨by rfl, ?_⟩) (by assumption) ?_
      rotate_left
      · intro W' hSw
        try dsimp only at hSw
        simp only [List.getElem_toArray, List.getElem_cons_succ, List.getElem_cons_zero]
        go_simp
        try with_reducible rfl
      try simp only [Act.put, List.getElem_toArray, List.getElem_cons_succ, List.getElem_cons_zero, List.setIfInBounds_toArray, List.set_cons_zero, List.set_cons_succ]
      refine wpAnyH_take (i := 9) (oi := _) (v := ?_) rfl (by as_aux_lemma => kernel_rfl) (by as_aux_lemma => kernel_rfl) (by as_aux_lemma => kernel_rfl) (fun _ _ _ h => h) (Or.inl ⟨by rfl, ?_⟩) (by assumption) ?_
      rotate_left
      · intro W' hSw
        try dsimp only at hSw
        simp only [List.getElem_toArray, List.getElem_cons_succ, List.getElem_cons_zero]
        go_simp
        try with_reducible rfl
      try simp only [Act.put, List.getElem_toArray, List.getElem_cons_succ, List.getElem_cons_zero, List.setIfInBounds_toArray, List.set_cons_zero, List.set_cons_succ]
      refine wpAnyH_take (i := 10) (oi := _) (v := ?_) rfl (by as_aux_lemma => kernel_rfl) (by as_aux_lemma => kernel_rfl) (by as_aux_lemma => kernel_rfl) (fun _ _ _ h => h) (Or.inl ⟨by rfl, ?_⟩) (by assumption) ?_
      rotate_left
      · intro W' hSw
        try dsimp only at hSw
        simp only [List.getElem_toArray, List.getElem_cons_succ, List.getElem_cons_zero]
        go_simp
        try with_reducible rfl
      try simp only [Act.put, List.getElem_toArray, List.getElem_cons_succ, List.getElem_cons_zero, List.setIfInBounds_toArray, List.set_cons_zero, List.set_cons_succ]
      have HB0 : Below w.heap.size w w.drew := (Below.refl _ w).drew
      refine wpAnyH_ready (rs := [0, 6]) (by as_aux_lemma => kernel_rfl) (by simp) ?_
      refine AllReadyH.cons (o := _) rfl (fun K hK => ?_) (AllReadyH.cons (o := _) rfl (fun K hK => ?_) (AllReadyH.nil))
      · simp only [List.getElem_toArray, List.getElem_cons_zero]
        go_simp
        refine hK.out _ _ trivial (fun hHeld => ?_)
        clear hK K
        try simp only [Act.put, List.getElem_toArray, List.getElem_cons_zero, List.setIfInBounds_toArray, List.set_cons_zero, List.set_cons_succ]
        have B1 : Below w.heap.size w (w.drew.alloc (.cells #[] 3)) := HB0.alloc HB0.size _
        have O1 : (w.drew.alloc (.cells #[] 3)).ownsRow w.heap.size 3 1 (.slice (some ⟨w.drew.heap.size, 0, none⟩) 0 0) 0 [] := by simpa using World.ownsRow_lit (base := w.heap.size) (e := 3) (size := 1) w.drew #[] 0 HB0.size (by simp [maxLen]) rfl
        refine wpAnyH_ready (rs := [4, 6]) (by as_aux_lemma => kernel_rfl) (by simp) ?_
        refine AllReadyH.cons (o := _) rfl (fun K hK => ?_) (AllReadyH.cons (o := _) rfl (fun K hK => ?_) (AllReadyH.nil))
        · refine step_append_own rfl (.tmp 33) (.tmp 36) 24 rfl w.heap.size 3 i0 (.int .i64 0) 1 8 Tryz.underlying24 hi0 hz0 hz1 hz2 rfl (by decide) (.slice (some ⟨w.drew.heap.size, 0, none⟩) 0 0) (0) ([]) (by simp [Act.eval]) O1 ⟨g, 0, none⟩ (0) _ (((NL L).take (0)).map (Value.int .i64)) (by simp [Act.eval] <;> first | rfl | omega) (by rw [List.length_map, List.length_take, NL_len, HLE.out]; omega) (news_take (HI.out.below rfl B1) (0)) (by intro u hu; obtain ⟨y, _, rfl⟩ := List.mem_map.1 hu; rfl) (by unfold maxLen; omega) (by omega) B1.size ?_
          intro v2 w2 O2 hg2
          refine hK.out _ _ trivial (fun hHeld => ?_)
          clear hK K
          try simp only [Act.put, List.getElem_toArray, List.getElem_cons_succ, List.getElem_cons_zero, List.setIfInBounds_toArray, List.set_cons_zero, List.set_cons_succ]
          have B2 : Below w.heap.size w w2 := B1.grown hg2 B1.size (fun q hq => (O1.lt q hq).1)
          refine wpAnyH_ready (rs := [6]) (by as_aux_lemma => kernel_rfl) (by simp) ?_
          refine AllReadyH.cons (o := _) rfl (fun K hK => ?_) (AllReadyH.nil)
          simp only [List.getElem_toArray, List.getElem_cons_succ, List.getElem_cons_zero]
          go_simp
          refine hK.out _ _ trivial (fun hHeld => ?_)
          clear hK K
          try simp only [Act.put, List.getElem_toArray, List.getElem_cons_succ, List.getElem_cons_zero, List.setIfInBounds_toArray, List.set_cons_zero, List.set_cons_succ]
          have B3 : Below w.heap.size w (w2.alloc (.cells #[.int .i64 n] 3)) := B2.alloc B2.size _
          have c3 : (w2.alloc (.cells #[.int .i64 n] 3)).cell? ⟨w2.heap.size, 0, none⟩ = some (.int .i64 (n : Nat)) := newC w2 (.int .i64 (n : Nat)) 3 (n := w2.heap.size) rfl
          have O3 := owns_below O2 (Joins.below_alloc1 w2 (.cells #[.int .i64 n] 3))
          refine wpAnyH_ready (rs := [7]) (by as_aux_lemma => kernel_rfl) (by simp) ?_
          refine AllReadyH.cons (o := _) rfl (fun K hK => ?_) (AllReadyH.nil)
          refine step_append_own rfl (.tmp 37) (.tmp 39) 24 rfl w.heap.size 3 i0 (.int .i64 0) 1 8 Tryz.underlying24 hi0 hz0 hz1 hz2 rfl (by decide) (v2) (0 + 0) ([] ++ (((NL L).take (0)).map (Value.int .i64))) (by simp [Act.eval]) O3 ⟨w2.heap.size, 0, none⟩ (1) _ [.int .i64 (n : Nat)] (by simp [Act.eval] <;> first | rfl | omega) rfl (news_one c3) (by intro u hu; rw [List.mem_singleton] at hu; subst hu; rfl) (by unfold maxLen; omega) (by omega) B3.size ?_
          intro v4 w4 O4 hg4
          refine hK.out _ _ trivial (fun hHeld => ?_)
          clear hK K
          try simp only [Act.put, List.getElem_toArray, List.getElem_cons_succ, List.getElem_cons_zero, List.setIfInBounds_toArray, List.set_cons_zero, List.set_cons_succ]
          have B4 : Below w.heap.size w w4 := B3.grown hg4 B3.size (fun q hq => (O3.lt q hq).1)
          refine wpAnyH_ready (rs := [11]) (by as_aux_lemma => kernel_rfl) (by simp) ?_
          refine AllReadyH.cons (o := _) rfl (fun K hK => ?_) (AllReadyH.nil)
          refine step_append_own rfl (.tmp 40) (.tmp 43) 24 rfl w.heap.size 3 i0 (.int .i64 0) 1 8 Tryz.underlying24 hi0 hz0 hz1 hz2 rfl (by decide) (v4) (0 + 0 + 1) ([] ++ (((NL L).take (0)).map (Value.int .i64)) ++ [.int .i64 (n : Nat)]) (by simp [Act.eval]) O4 ⟨g, 0, none⟩ ((len - (0))) _ (((NL L).drop (0)).map (Value.int .i64)) (by simp [Act.eval] <;> first | rfl | omega) (by rw [List.length_map, List.length_drop, NL_len, HLE.out]; omega) (news_drop (HI.out.below rfl B4) (0)) (by intro u hu; obtain ⟨y, _, rfl⟩ := List.mem_map.1 hu; rfl) (by unfold maxLen; omega) (by omega) B4.size ?_
          intro v5 w5 O5 hg5
          refine hK.out _ _ trivial (fun hHeld => ?_)
          clear hK K
          try simp only [Act.put, List.getElem_toArray, List.getElem_cons_succ, List.getElem_cons_zero, List.setIfInBounds_toArray, List.set_cons_zero, List.set_cons_succ]
          have B5 : Below w.heap.size w w5 := B4.grown hg5 B4.size (fun q hq => (O4.lt q hq).1)
          refine wpAnyH_ready (rs := [12]) (by as_aux_lemma => kernel_rfl) (by simp) ?_
          refine AllReadyH.cons (o := _) rfl (fun K hK => ?_) (AllReadyH.nil)
          simp only [List.getElem_toArray, List.getElem_cons_succ, List.getElem_cons_zero]
          go_simp
          refine hK.out _ _ trivial (fun hHeld => ?_)
          clear hK K
          try simp only [Act.put, List.getElem_toArray, List.getElem_cons_succ, List.getElem_cons_zero, List.setIfInBounds_toArray, List.set_cons_zero, List.set_cons_succ]
          refine wpAnyH_done (by kernel_rfl) ?_ _
          go_wp2
          go_ret
          have HRP := row_put HP24.out HP.out (by have := HLE.out; omega) O5
          first | exact ⟨_, rfl, _, HP.out, HRP, B5⟩ | exact ⟨_, _, rfl, HP.out, HRP, B5⟩
        · simp only [List.getElem_toArray, List.getElem_cons_succ, List.getElem_cons_zero]
          go_simp
          refine hK.out _ _ trivial (fun hHeld => ?_)
          clear hK K
          try simp only [Act.put, List.getElem_toArray, List.getElem_cons_succ, List.getElem_cons_zero, List.setIfInBounds_toArray, List.set_cons_zero, List.set_cons_succ]
          have B2 : Below w.heap.size w ((w.drew.alloc (.cells #[] 3)).alloc (.cells #[.int .i64 n] 3)) := B1.alloc B1.size _
          have c2 : ((w.drew.alloc (.cells #[] 3)).alloc (.cells #[.int .i64 n] 3)).cell? ⟨(w.drew.alloc (.cells #[] 3)).heap.size, 0, none⟩ = some (.int .i64 (n : Nat)) := newC (w.drew.alloc (.cells #[] 3)) (.int .i64 (n : Nat)) 3 (n := (w.drew.alloc (.cells #[] 3)).heap.size) rfl
          have O2 := owns_below O1 (Joins.below_alloc1 (w.drew.alloc (.cells #[] 3)) (.cells #[.int .i64 n] 3))
          refine wpAnyH_ready (rs := [4]) (by as_aux_lemma => kernel_rfl) (by simp) ?_
          refine AllReadyH.cons (o := _) rfl (fun K hK => ?_) (AllReadyH.nil)
          refine step_append_own rfl (.tmp 33) (.tmp 36) 24 rfl w.heap.size 3 i0 (.int .i64 0) 1 8 Tryz.underlying24 hi0 hz0 hz1 hz2 rfl (by decide) (.slice (some ⟨w.drew.heap.size, 0, none⟩) 0 0) (0) ([]) (by simp [Act.eval]) O2 ⟨g, 0, none⟩ (0) _ (((NL L).take (0)).map (Value.int .i64)) (by simp [Act.eval] <;> first | rfl | omega) (by rw [List.length_map, List.length_take, NL_len, HLE.out]; omega) (news_take (HI.out.below rfl B2) (0)) (by intro u hu; obtain ⟨y, _, rfl⟩ := List.mem_map.1 hu; rfl) (by unfold maxLen; omega) (by omega) B2.size ?_
          intro v3 w3 O3 hg3
          refine hK.out _ _ trivial (fun hHeld => ?_)
          clear hK K
          try simp only [Act.put, List.getElem_toArray, List.getElem_cons_succ, List.getElem_cons_zero, List.setIfInBounds_toArray, List.set_cons_zero, List.set_cons_succ]
          have B3 : Below w.heap.size w w3 := B2.grown hg3 B2.size (fun q hq => (O2.lt q hq).1)
          have c3 : w3.cell? ⟨(w.drew.alloc (.cells #[] 3)).heap.size, 0, none⟩ = some (.int .i64 (n : Nat)) := hg3.cell c2 (by simp [Value.ownBlock])
          refine wpAnyH_ready (rs := [7]) (by as_aux_lemma => kernel_rfl) (by simp) ?_
          refine AllReadyH.cons (o := _) rfl (fun K hK => ?_) (AllReadyH.nil)
          refine step_append_own rfl (.tmp 37) (.tmp 39) 24 rfl w.heap.size 3 i0 (.int .i64 0) 1 8 Tryz.underlying24 hi0 hz0 hz1 hz2 rfl (by decide) (v3) (0 + 0) ([] ++ (((NL L).take (0)).map (Value.int .i64))) (by simp [Act.eval]) O3 ⟨(w.drew.alloc (.cells #[] 3)).heap.size, 0, none⟩ (1) _ [.int .i64 (n : Nat)] (by simp [Act.eval] <;> first | rfl | omega) rfl (news_one c3) (by intro u hu; rw [List.mem_singleton] at hu; subst hu; rfl) (by unfold maxLen; omega) (by omega) B3.size ?_
          intro v4 w4 O4 hg4
          refine hK.out _ _ trivial (fun hHeld => ?_)
          clear hK K
          try simp only [Act.put, List.getElem_toArray, List.getElem_cons_succ, List.getElem_cons_zero, List.setIfInBounds_toArray, List.set_cons_zero, List.set_cons_succ]
          have B4 : Below w.heap.size w w4 := B3.grown hg4 B3.size (fun q hq => (O3.lt q hq).1)
          refine wpAnyH_ready (rs := [11]) (by as_aux_lemma => kernel_rfl) (by simp) ?_
          refine AllReadyH.cons (o := _) rfl (fun K hK => ?_) (AllReadyH.nil)
          refine step_append_own rfl (.tmp 40) (.tmp 43) 24 rfl w.heap.size 3 i0 (.int .i64 0) 1 8 Tryz.underlying24 hi0 hz0 hz1 hz2 rfl (by decide) (v4) (0 + 0 + 1) ([] ++ (((NL L).take (0)).map (Value.int .i64)) ++ [.int .i64 (n : Nat)]) (by simp [Act.eval]) O4 ⟨g, 0, none⟩ ((len - (0))) _ (((NL L).drop (0)).map (Value.int .i64)) (by simp [Act.eval] <;> first | rfl | omega) (by rw [List.length_map, List.length_drop, NL_len, HLE.out]; omega) (news_drop (HI.out.below rfl B4) (0)) (by intro u hu; obtain ⟨y, _, rfl⟩ := List.mem_map.1 hu; rfl) (by unfold maxLen; omega) (by omega) B4.size ?_
          intro v5 w5 O5 hg5
          refine hK.out _ _ trivial (fun hHeld => ?_)
          clear hK K
          try simp only [Act.put, List.getElem_toArray, List.getElem_cons_succ, List.getElem_cons_zero, List.setIfInBounds_toArray, List.set_cons_zero, List.set_cons_succ]
          have B5 : Below w.heap.size w w5 := B4.grown hg5 B4.size (fun q hq => (O4.lt q hq).1)
          refine wpAnyH_ready (rs := [12]) (by as_aux_lemma => kernel_rfl) (by simp) ?_
          refine AllReadyH.cons (o := _) rfl (fun K hK => ?_) (AllReadyH.nil)
          simp only [List.getElem_toArray, List.getElem_cons_succ, List.getElem_cons_zero]
          go_simp
          refine hK.out _ _ trivial (fun hHeld => ?_)
          clear hK K
          try simp only [Act.put, List.getElem_toArray, List.getElem_cons_succ, List.getElem_cons_zero, List.setIfInBounds_toArray, List.set_cons_zero, List.set_cons_succ]
          refine wpAnyH_done (by kernel_rfl) ?_ _
          go_wp2
          go_ret
          have HRP := row_put HP24.out HP.out (by have := HLE.out; omega) O5
          first | exact ⟨_, rfl, _, HP.out, HRP, B5⟩ | exact ⟨_, _, rfl, HP.out, HRP, B5⟩
      · simp only [List.getElem_toArray, List.getElem_cons_succ, List.getElem_cons_zero]
        go_simp
        refine hK.out _ _ trivial (fun hHeld => ?_)
        clear hK K
        try simp only [Act.put, List.getElem_toArray, List.getElem_cons_succ, List.getElem_cons_zero, List.setIfInBounds_toArray, List.set_cons_zero, List.set_cons_succ]
        have B1 : Below w.heap.size w (w.drew.alloc (.cells #[.int .i64 n] 3)) := HB0.alloc HB0.size _
        have c1 : (w.drew.alloc (.cells #[.int .i64 n] 3)).cell? ⟨w.drew.heap.size, 0, none⟩ = some (.int .i64 (n : Nat)) := newC w.drew (.int .i64 (n : Nat)) 3 (n := w.drew.heap.size) rfl
        refine wpAnyH_ready (rs := [0]) (by as_aux_lemma => kernel_rfl) (by simp) ?_
        refine AllReadyH.cons (o := _) rfl (fun K hK => ?_) (AllReadyH.nil)
        simp only [List.getElem_toArray, List.getElem_cons_zero]
        go_simp
        refine hK.out _ _ trivial (fun hHeld => ?_)
        clear hK K
        try simp only [Act.put, List.getElem_toArray, List.getElem_cons_zero, List.setIfInBounds_toArray, List.set_cons_zero, List.set_cons_succ]
        have B2 : Below w.heap.size w ((w.drew.alloc (.cells #[.int .i64 n] 3)).alloc (.cells #[] 3)) := B1.alloc B1.size _
        have O2 : ((w.drew.alloc (.cells #[.int .i64 n] 3)).alloc (.cells #[] 3)).ownsRow w.heap.size 3 1 (.slice (some ⟨(w.drew.alloc (.cells #[.int .i64 n] 3)).heap.size, 0, none⟩) 0 0) 0 [] := by simpa using World.ownsRow_lit (base := w.heap.size) (e := 3) (size := 1) (w.drew.alloc (.cells #[.int .i64 n] 3)) #[] 0 B1.size (by simp [maxLen]) rfl
        have c2 := keepC (Joins.below_alloc1 (w.drew.alloc (.cells #[.int .i64 n] 3)) (.cells #[] 3)) (by simp) c1
        refine wpAnyH_ready (rs := [4]) (by as_aux_lemma => kernel_rfl) (by simp) ?_
        refine AllReadyH.cons (o := _) rfl (fun K hK => ?_) (AllReadyH.nil)
        refine step_append_own rfl (.tmp 33) (.tmp 36) 24 rfl w.heap.size 3 i0 (.int .i64 0) 1 8 Tryz.underlying24 hi0 hz0 hz1 hz2 rfl (by decide) (.slice (some ⟨(w.drew.alloc (.cells #[.int .i64 n] 3)).heap.size, 0, none⟩) 0 0) (0) ([]) (by simp [Act.eval]) O2 ⟨g, 0, none⟩ (0) _ (((NL L).take (0)).map (Value.int .i64)) (by simp [Act.eval] <;> first | rfl | omega) (by rw [List.length_map, List.length_take, NL_len, HLE.out]; omega) (news_take (HI.out.below rfl B2) (0)) (by intro u hu; obtain ⟨y, _, rfl⟩ := List.mem_map.1 hu; rfl) (by unfold maxLen; omega) (by omega) B2.size ?_
        intro v3 w3 O3 hg3
        refine hK.out _ _ trivial (fun hHeld => ?_)
        clear hK K
        try simp only [Act.put, List.getElem_toArray, List.getElem_cons_succ, List.getElem_cons_zero, List.setIfInBounds_toArray, List.set_cons_zero, List.set_cons_succ]
        have B3 : Below w.heap.size w w3 := B2.grown hg3 B2.size (fun q hq => (O2.lt q hq).1)
        have c3 : w3.cell? ⟨w.drew.heap.size, 0, none⟩ = some (.int .i64 (n : Nat)) := hg3.cell c2 (by simp [Value.ownBlock])
        refine wpAnyH_ready (rs := [7]) (by as_aux_lemma => kernel_rfl) (by simp) ?_
        refine AllReadyH.cons (o := _) rfl (fun K hK => ?_) (AllReadyH.nil)
        refine step_append_own rfl (.tmp 37) (.tmp 39) 24 rfl w.heap.size 3 i0 (.int .i64 0) 1 8 Tryz.underlying24 hi0 hz0 hz1 hz2 rfl (by decide) (v3) (0 + 0) ([] ++ (((NL L).take (0)).map (Value.int .i64))) (by simp [Act.eval]) O3 ⟨w.drew.heap.size, 0, none⟩ (1) _ [.int .i64 (n : Nat)] (by simp [Act.eval] <;> first | rfl | omega) rfl (news_one c3) (by intro u hu; rw [List.mem_singleton] at hu; subst hu; rfl) (by unfold maxLen; omega) (by omega) B3.size ?_
        intro v4 w4 O4 hg4
        refine hK.out _ _ trivial (fun hHeld => ?_)
        clear hK K
        try simp only [Act.put, List.getElem_toArray, List.getElem_cons_succ, List.getElem_cons_zero, List.setIfInBounds_toArray, List.set_cons_zero, List.set_cons_succ]
        have B4 : Below w.heap.size w w4 := B3.grown hg4 B3.size (fun q hq => (O3.lt q hq).1)
        refine wpAnyH_ready (rs := [11]) (by as_aux_lemma => kernel_rfl) (by simp) ?_
        refine AllReadyH.cons (o := _) rfl (fun K hK => ?_) (AllReadyH.nil)
        refine step_append_own rfl (.tmp 40) (.tmp 43) 24 rfl w.heap.size 3 i0 (.int .i64 0) 1 8 Tryz.underlying24 hi0 hz0 hz1 hz2 rfl (by decide) (v4) (0 + 0 + 1) ([] ++ (((NL L).take (0)).map (Value.int .i64)) ++ [.int .i64 (n : Nat)]) (by simp [Act.eval]) O4 ⟨g, 0, none⟩ ((len - (0))) _ (((NL L).drop (0)).map (Value.int .i64)) (by simp [Act.eval] <;> first | rfl | omega) (by rw [List.length_map, List.length_drop, NL_len, HLE.out]; omega) (news_drop (HI.out.below rfl B4) (0)) (by intro u hu; obtain ⟨y, _, rfl⟩ := List.mem_map.1 hu; rfl) (by unfold maxLen; omega) (by omega) B4.size ?_
        intro v5 w5 O5 hg5
        refine hK.out _ _ trivial (fun hHeld => ?_)
        clear hK K
        try simp only [Act.put, List.getElem_toArray, List.getElem_cons_succ, List.getElem_cons_zero, List.setIfInBounds_toArray, List.set_cons_zero, List.set_cons_succ]
        have B5 : Below w.heap.size w w5 := B4.grown hg5 B4.size (fun q hq => (O4.lt q hq).1)
        refine wpAnyH_ready (rs := [12]) (by as_aux_lemma => kernel_rfl) (by simp) ?_
        refine AllReadyH.cons (o := _) rfl (fun K hK => ?_) (AllReadyH.nil)
        simp only [List.getElem_toArray, List.getElem_cons_succ, List.getElem_cons_zero]
        go_simp
        refine hK.out _ _ trivial (fun hHeld => ?_)
        clear hK K
        try simp only [Act.put, List.getElem_toArray, List.getElem_cons_succ, List.getElem_cons_zero, List.setIfInBounds_toArray, List.set_cons_zero, List.set_cons_succ]
        refine wpAnyH_done (by kernel_rfl) ?_ _
        go_wp2
        go_ret
        have HRP := row_put HP24.out HP.out (by have := HLE.out; omega) O5
        first | exact ⟨_, rfl, _, HP.out, HRP, B5⟩ | exact ⟨_, _, rfl, HP.out, HRP, B5⟩
    | succ t =>
      have htl : t < L.length := by have := HLE.out; omega
      have htn : t < (NL L).length := by rw [NL_len]; exact htl
      have hz24 : L.getD t 0 < 16777216 := HLT.out t htl
      have HIN := HI.out
      rcases HIN with h0 | ⟨b, off, ha, hbl, hc⟩
      · rw [h0] at htn; simp at htn
      · cases ha
        have r1 := hc t htn
        rw [NL_at _ _ htl] at r1
        have HPS := Lib.hid (fun (e : L.getD t 0 = n) => put_same HS.out htl e)
        have HPN := Lib.hid (fun (e : L.getD t 0 < n) => put_new (k := t + 1) HS.out (by omega) HUP.out (fun j hj => by
          by_cases hjt : j = t
          · rw [hjt]; exact e
          · exact Nat.lt_trans (HS.out.at (by omega) htl) e))
        have HPU : Hid (n < L.getD t 0 → ∀ j, t ≤ j → j < L.length → n < L.getD j 0) := Lib.hid (fun e j h1 h2 => by
          by_cases hjt : j = t
          · rw [hjt]; exact e
          · exact HUP.out j (by omega) h2)
        obtain ⟨z, hz⟩ : ∃ z, L.getD t 0 = z := ⟨_, rfl⟩
        rw [hz] at r1 HPS HPN HPU hz24
        clear hc hz htn htl
        rw [show (0 : Nat) + t = t by omega] at r1
        rcases Nat.lt_trichotomy z n with h1 | h1 | h1
        · have HP := Lib.hid (HPN.out h1)
          have h2 : ¬ ((n : Int) < (z : Int)) := by omega
          have h3 : ((z : Int) == (n : Int)) = false := by
            have : (z : Int) ≠ (n : Int) := by omega
            simpa using this
          have hk1 : (t : Int) + 1 ≤ (cap : Int) := by omega
          have hk2 : (t : Int) + 1 ≤ (len : Int) := by omega
          have hk3 : 0 ≤ (t : Int) + 1 := by omega
          clear HPS HPN HPU
          by_cases hct : cap = t + 1
          · have HD0 : Hid ((NL L).drop (t + 1) = []) := Lib.hid (List.drop_eq_nil_of_le (by rw [NL_len, HLE.out]; omega))
            go_upto_region 6 with fail
            refine wp_region_held_drew (S := fun _ => True) (by kernel_rfl) trivial (fun hHeld => ?_)
            refine wpAnyH_take (i := 1) (oi := _) (v := ?_) rfl (by as_aux_lemma => kernel_rfl) (by as_aux_lemma => kernel_rfl) (by as_aux_lemma => kernel_rfl) (fun _ _ _ h => h) (Or.inl ⟨by rfl, ?_⟩) (by assumption) ?_
            rotate_left
            · intro W' hSw
              try dsimp only at hSw
              simp only [List.getElem_toArray, List.getElem_cons_succ, List.getElem_cons_zero]
              go_simp
              try with_reducible rfl
            try simp only [Act.put, List.getElem_toArray, List.getElem_cons_succ, List.getElem_cons_zero, List.setIfInBounds_toArray, List.set_cons_zero, List.set_cons_succ]
            refine wpAnyH_take (i := 2) (oi := _) (v := ?_) rfl (by as_aux_lemma => kernel_rfl) (by as_aux_lemma => kernel_rfl) (by as_aux_lemma => kernel_rfl) (fun _ _ _ h => h) (Or.inl ⟨by rfl, ?_⟩) (by assumption) ?_
            rotate_left
            · intro W' hSw
              try dsimp only at hSw
              simp only [List.getElem_toArray, List.getElem_cons_succ, List.getElem_cons_zero]
              go_simp
              try with_reducible rfl
            try simp only [Act.put, List.getElem_toArray, List.getElem_cons_succ, List.getElem_cons_zero, List.setIfInBounds_toArray, List.set_cons_zero, List.set_cons_succ]
            refine wpAnyH_take (i := 3) (oi := _) (v := ?_) rfl (by as_aux_lemma => kernel_rfl) (by as_aux_lemma => kernel_rfl) (by as_aux_lemma => kernel_rfl) (fun _ _ _ h => h) (Or.inl ⟨by rfl, ?_⟩) (by assumption) ?_
            rotate_left
            · intro W' hSw
              try dsimp only at hSw
              simp only [List.getElem_toArray, List.getElem_cons_succ, List.getElem_cons_zero]
              go_simp
              try with_reducible rfl
            try simp only [Act.put, List.getElem_toArray, List.getElem_cons_succ, List.getElem_cons_zero, List.setIfInBounds_toArray, List.set_cons_zero, List.set_cons_succ]
            refine wpAnyH_take (i := 5) (oi := _) (v := ?_) rfl (by as_aux_lemma => kernel_rfl) (by as_aux_lemma => kernel_rfl) (by as_aux_lemma => kernel_rfl) (fun _ _ _ h => h) (Or.inl ⟨by rfl, ?_⟩) (by assumption) ?_
            rotate_left
            · intro W' hSw
              try dsimp only at hSw
              simp only [List.getElem_toArray, List.getElem_cons_succ, List.getElem_cons_zero]
              go_simp
              try with_reducible rfl
            try simp only [Act.put, List.getElem_toArray, List.getElem_cons_succ, List.getElem_cons_zero, List.setIfInBounds_toArray, List.set_cons_zero, List.set_cons_succ]
            refine wpAnyH_take (i := 8) (oi := _) (v := ?_) rfl (by as_aux_lemma => kernel_rfl) (by as_aux_lemma => kernel_rfl) (by as_aux_lemma => kernel_rfl) (fun _ _ _ h => h) (Or.inl ⟨by rfl, ?_⟩) (by assumption) ?_
            rotate_left
            · intro W' hSw
              try dsimp only at hSw
              simp only [List.getElem_toArray, List.getElem_cons_succ, List.getElem_cons_zero]
              go_simp
              try with_reducible rfl
            try simp only [Act.put, List.getElem_toArray, List.getElem_cons_succ, List.getElem_cons_zero, List.setIfInBounds_toArray, List.set_cons_zero, List.set_cons_succ]
            refine wpAnyH_take (i := 9) (oi := _) (v := ?_) rfl (by as_aux_lemma => kernel_rfl) (by as_aux_lemma => kernel_rfl) (by as_aux_lemma => kernel_rfl) (fun _ _ _ h => h) (Or.inl ⟨by rfl, ?_⟩) (by assumption) ?_
            rotate_left
            · intro W' hSw
              try dsimp only at hSw
              simp only [List.getElem_toArray, List.getElem_cons_succ, List.getElem_cons_zero]
              go_simp
              try with_reducible rfl
            try simp only [Act.put, List.getElem_toArray, List.getElem_cons_succ, List.getElem_cons_zero, List.setIfInBounds_toArray, List.set_cons_zero, List.set_cons_succ]
            refine wpAnyH_take (i := 10) (oi := _) (v := ?_) rfl (by as_aux_lemma => kernel_rfl) (by as_aux_lemma => kernel_rfl) (by as_aux_lemma => kernel_rfl) (fun _ _ _ h => h) (Or.inl ⟨by rfl, ?_⟩) (by assumption) ?_
            rotate_left
            · intro W' hSw
              try dsimp only at hSw
              simp only [List.getElem_toArray, List.getElem_cons_succ, List.getElem_cons_zero]
              go_simp
              try with_reducible rfl
            try simp only [Act.put, List.getElem_toArray, List.getElem_cons_succ, List.getElem_cons_zero, List.setIfInBounds_toArray, List.set_cons_zero, List.set_cons_succ]
            have HB0 : Below w.heap.size w w.drew := (Below.refl _ w).drew
            refine wpAnyH_ready (rs := [0, 6]) (by as_aux_lemma => kernel_rfl) (by simp) ?_
            refine AllReadyH.cons (o := _) rfl (fun K hK => ?_) (AllReadyH.cons (o := _) rfl (fun K hK => ?_) (AllReadyH.nil))
            · simp only [List.getElem_toArray, List.getElem_cons_zero]
              go_simp
              refine hK.out _ _ trivial (fun hHeld => ?_)
              clear hK K
              try simp only [Act.put, List.getElem_toArray, List.getElem_cons_zero, List.setIfInBounds_toArray, List.set_cons_zero, List.set_cons_succ]
              have B1 : Below w.heap.size w (w.drew.alloc (.cells #[] 3)) := HB0.alloc HB0.size _
              have O1 : (w.drew.alloc (.cells #[] 3)).ownsRow w.heap.size 3 1 (.slice (some ⟨w.drew.heap.size, 0, none⟩) 0 0) 0 [] := by simpa using World.ownsRow_lit (base := w.heap.size) (e := 3) (size := 1) w.drew #[] 0 HB0.size (by simp [maxLen]) rfl
              refine wpAnyH_ready (rs := [4, 6]) (by as_aux_lemma => kernel_rfl) (by simp) ?_
              refine AllReadyH.cons (o := _) rfl (fun K hK => ?_) (AllReadyH.cons (o := _) rfl (fun K hK => ?_) (AllReadyH.nil))
              · refine step_append_own rfl (.tmp 33) (.tmp 36) 24 rfl w.heap.size 3 i0 (.int .i64 0) 1 8 Tryz.underlying24 hi0 hz0 hz1 hz2 rfl (by decide) (.slice (some ⟨w.drew.heap.size, 0, none⟩) 0 0) (0) ([]) (by simp [Act.eval]) O1 ⟨g, 0, none⟩ (t + 1) _ (((NL L).take (t + 1)).map (Value.int .i64)) (by simp [Act.eval] <;> first | rfl | omega) (by rw [List.length_map, List.length_take, NL_len, HLE.out]; omega) (news_take (HI.out.below rfl B1) (t + 1)) (by intro u hu; obtain ⟨y, _, rfl⟩ := List.mem_map.1 hu; rfl) (by unfold maxLen; omega) (by omega) B1.size ?_
                intro v2 w2 O2 hg2
                refine hK.out _ _ trivial (fun hHeld => ?_)
                clear hK K
                try simp only [Act.put, List.getElem_toArray, List.getElem_cons_succ, List.getElem_cons_zero, List.setIfInBounds_toArray, List.set_cons_zero, List.set_cons_succ]
                have B2 : Below w.heap.size w w2 := B1.grown hg2 B1.size (fun q hq => (O1.lt q hq).1)
                refine wpAnyH_ready (rs := [6]) (by as_aux_lemma => kernel_rfl) (by simp) ?_
                refine AllReadyH.cons (o := _) rfl (fun K hK => ?_) (AllReadyH.nil)
                simp only [List.getElem_toArray, List.getElem_cons_succ, List.getElem_cons_zero]
                go_simp
                refine hK.out _ _ trivial (fun hHeld => ?_)
                clear hK K
                try simp only [Act.put, List.getElem_toArray, List.getElem_cons_succ, List.getElem_cons_zero, List.setIfInBounds_toArray, List.set_cons_zero, List.set_cons_succ]
                have B3 : Below w.heap.size w (w2.alloc (.cells #[.int .i64 n] 3)) := B2.alloc B2.size _
                have c3 : (w2.alloc (.cells #[.int .i64 n] 3)).cell? ⟨w2.heap.size, 0, none⟩ = some (.int .i64 (n : Nat)) := newC w2 (.int .i64 (n : Nat)) 3 (n := w2.heap.size) rfl
                have O3 := owns_below O2 (Joins.below_alloc1 w2 (.cells #[.int .i64 n] 3))
                refine wpAnyH_ready (rs := [7]) (by as_aux_lemma => kernel_rfl) (by simp) ?_
                refine AllReadyH.cons (o := _) rfl (fun K hK => ?_) (AllReadyH.nil)
                refine step_append_own rfl (.tmp 37) (.tmp 39) 24 rfl w.heap.size 3 i0 (.int .i64 0) 1 8 Tryz.underlying24 hi0 hz0 hz1 hz2 rfl (by decide) (v2) (0 + t + 1) ([] ++ (((NL L).take (t + 1)).map (Value.int .i64))) (by simp [Act.eval]) O3 ⟨w2.heap.size, 0, none⟩ (1) _ [.int .i64 (n : Nat)] (by simp [Act.eval] <;> first | rfl | omega) rfl (news_one c3) (by intro u hu; rw [List.mem_singleton] at hu; subst hu; rfl) (by unfold maxLen; omega) (by omega) B3.size ?_
                intro v4 w4 O4 hg4
                refine hK.out _ _ trivial (fun hHeld => ?_)
                clear hK K
                try simp only [Act.put, List.getElem_toArray, List.getElem_cons_succ, List.getElem_cons_zero, List.setIfInBounds_toArray, List.set_cons_zero, List.set_cons_succ]
                have B4 : Below w.heap.size w w4 := B3.grown hg4 B3.size (fun q hq => (O3.lt q hq).1)
                refine wpAnyH_ready (rs := [11]) (by as_aux_lemma => kernel_rfl) (by simp) ?_
                refine AllReadyH.cons (o := _) rfl (fun K hK => ?_) (AllReadyH.nil)
                refine step_append_own rfl (.tmp 40) (.tmp 43) 24 rfl w.heap.size 3 i0 (.int .i64 0) 1 8 Tryz.underlying24 hi0 hz0 hz1 hz2 rfl (by decide) (v4) (0 + t + 1 + 1) ([] ++ (((NL L).take (t + 1)).map (Value.int .i64)) ++ [.int .i64 (n : Nat)]) (by simp [Act.eval]) O4 ⟨g, 0, none⟩ ((len - (t + 1))) _ (((NL L).drop (t + 1)).map (Value.int .i64)) (by simp [Act.eval] <;> first | rfl | omega) (by rw [List.length_map, List.length_drop, NL_len, HLE.out]; omega) (by rw [HD0.out]; intro j u hu; simp at hu) (by intro u hu; obtain ⟨y, _, rfl⟩ := List.mem_map.1 hu; rfl) (by unfold maxLen; omega) (by omega) B4.size ?_
                intro v5 w5 O5 hg5
                refine hK.out _ _ trivial (fun hHeld => ?_)
                clear hK K
                try simp only [Act.put, List.getElem_toArray, List.getElem_cons_succ, List.getElem_cons_zero, List.setIfInBounds_toArray, List.set_cons_zero, List.set_cons_succ]
                have B5 : Below w.heap.size w w5 := B4.grown hg5 B4.size (fun q hq => (O4.lt q hq).1)
                refine wpAnyH_ready (rs := [12]) (by as_aux_lemma => kernel_rfl) (by simp) ?_
                refine AllReadyH.cons (o := _) rfl (fun K hK => ?_) (AllReadyH.nil)
                simp only [List.getElem_toArray, List.getElem_cons_succ, List.getElem_cons_zero]
                go_simp
                refine hK.out _ _ trivial (fun hHeld => ?_)
                clear hK K
                try simp only [Act.put, List.getElem_toArray, List.getElem_cons_succ, List.getElem_cons_zero, List.setIfInBounds_toArray, List.set_cons_zero, List.set_cons_succ]
                refine wpAnyH_done (by kernel_rfl) ?_ _
                go_wp2
                go_ret
                have HRP := row_put HP24.out HP.out (by have := HLE.out; omega) O5
                first | exact ⟨_, rfl, _, HP.out, HRP, B5⟩ | exact ⟨_, _, rfl, HP.out, HRP, B5⟩
              · simp only [List.getElem_toArray, List.getElem_cons_succ, List.getElem_cons_zero]
                go_simp
                refine hK.out _ _ trivial (fun hHeld => ?_)
                clear hK K
                try simp only [Act.put, List.getElem_toArray, List.getElem_cons_succ, List.getElem_cons_zero, List.setIfInBounds_toArray, List.set_cons_zero, List.set_cons_succ]
                have B2 : Below w.heap.size w ((w.drew.alloc (.cells #[] 3)).alloc (.cells #[.int .i64 n] 3)) := B1.alloc B1.size _
                have c2 : ((w.drew.alloc (.cells #[] 3)).alloc (.cells #[.int .i64 n] 3)).cell? ⟨(w.drew.alloc (.cells #[] 3)).heap.size, 0, none⟩ = some (.int .i64 (n : Nat)) := newC (w.drew.alloc (.cells #[] 3)) (.int .i64 (n : Nat)) 3 (n := (w.drew.alloc (.cells #[] 3)).heap.size) rfl
                have O2 := owns_below O1 (Joins.below_alloc1 (w.drew.alloc (.cells #[] 3)) (.cells #[.int .i64 n] 3))
                refine wpAnyH_ready (rs := [4]) (by as_aux_lemma => kernel_rfl) (by simp) ?_
                refine AllReadyH.cons (o := _) rfl (fun K hK => ?_) (AllReadyH.nil)
                refine step_append_own rfl (.tmp 33) (.tmp 36) 24 rfl w.heap.size 3 i0 (.int .i64 0) 1 8 Tryz.underlying24 hi0 hz0 hz1 hz2 rfl (by decide) (.slice (some ⟨w.drew.heap.size, 0, none⟩) 0 0) (0) ([]) (by simp [Act.eval]) O2 ⟨g, 0, none⟩ (t + 1) _ (((NL L).take (t + 1)).map (Value.int .i64)) (by simp [Act.eval] <;> first | rfl | omega) (by rw [List.length_map, List.length_take, NL_len, HLE.out]; omega) (news_take (HI.out.below rfl B2) (t + 1)) (by intro u hu; obtain ⟨y, _, rfl⟩ := List.mem_map.1 hu; rfl) (by unfold maxLen; omega) (by omega) B2.size ?_
                intro v3 w3 O3 hg3
                refine hK.out _ _ trivial (fun hHeld => ?_)
                clear hK K
                try simp only [Act.put, List.getElem_toArray, List.getElem_cons_succ, List.getElem_cons_zero, List.setIfInBounds_toArray, List.set_cons_zero, List.set_cons_succ]
                have B3 : Below w.heap.size w w3 := B2.grown hg3 B2.size (fun q hq => (O2.lt q hq).1)
                have c3 : w3.cell? ⟨(w.drew.alloc (.cells #[] 3)).heap.size, 0, none⟩ = some (.int .i64 (n : Nat)) := hg3.cell c2 (by simp [Value.ownBlock])
                refine wpAnyH_ready (rs := [7]) (by as_aux_lemma => kernel_rfl) (by simp) ?_
                refine AllReadyH.cons (o := _) rfl (fun K hK => ?_) (AllReadyH.nil)
                refine step_append_own rfl (.tmp 37) (.tmp 39) 24 rfl w.heap.size 3 i0 (.int .i64 0) 1 8 Tryz.underlying24 hi0 hz0 hz1 hz2 rfl (by decide) (v3) (0 + t + 1) ([] ++ (((NL L).take (t + 1)).map (Value.int .i64))) (by simp [Act.eval]) O3 ⟨(w.drew.alloc (.cells #[] 3)).heap.size, 0, none⟩ (1) _ [.int .i64 (n : Nat)] (by simp [Act.eval] <;> first | rfl | omega) rfl (news_one c3) (by intro u hu; rw [List.mem_singleton] at hu; subst hu; rfl) (by unfold maxLen; omega) (by omega) B3.size ?_
                intro v4 w4 O4 hg4
                refine hK.out _ _ trivial (fun hHeld => ?_)
                clear hK K
                try simp only [Act.put, List.getElem_toArray, List.getElem_cons_succ, List.getElem_cons_zero, List.setIfInBounds_toArray, List.set_cons_zero, List.set_cons_succ]
                have B4 : Below w.heap.size w w4 := B3.grown hg4 B3.size (fun q hq => (O3.lt q hq).1)
                refine wpAnyH_ready (rs := [11]) (by as_aux_lemma => kernel_rfl) (by simp) ?_
                refine AllReadyH.cons (o := _) rfl (fun K hK => ?_) (AllReadyH.nil)
                refine step_append_own rfl (.tmp 40) (.tmp 43) 24 rfl w.heap.size 3 i0 (.int .i64 0) 1 8 Tryz.underlying24 hi0 hz0 hz1 hz2 rfl (by decide) (v4) (0 + t + 1 + 1) ([] ++ (((NL L).take (t + 1)).map (Value.int .i64)) ++ [.int .i64 (n : Nat)]) (by simp [Act.eval]) O4 ⟨g, 0, none⟩ ((len - (t + 1))) _ (((NL L).drop (t + 1)).map (Value.int .i64)) (by simp [Act.eval] <;> first | rfl | omega) (by rw [List.length_map, List.length_drop, NL_len, HLE.out]; omega) (by rw [HD0.out]; intro j u hu; simp at hu) (by intro u hu; obtain ⟨y, _, rfl⟩ := List.mem_map.1 hu; rfl) (by unfold maxLen; omega) (by omega) B4.size ?_
                intro v5 w5 O5 hg5
                refine hK.out _ _ trivial (fun hHeld => ?_)
                clear hK K
                try simp only [Act.put, List.getElem_toArray, List.getElem_cons_succ, List.getElem_cons_zero, List.setIfInBounds_toArray, List.set_cons_zero, List.set_cons_succ]
                have B5 : Below w.heap.size w w5 := B4.grown hg5 B4.size (fun q hq => (O4.lt q hq).1)
                refine wpAnyH_ready (rs := [12]) (by as_aux_lemma => kernel_rfl) (by simp) ?_
                refine AllReadyH.cons (o := _) rfl (fun K hK => ?_) (AllReadyH.nil)
                simp only [List.getElem_toArray, List.getElem_cons_succ, List.getElem_cons_zero]
                go_simp
                refine hK.out _ _ trivial (fun hHeld => ?_)
                clear hK K
                try simp only [Act.put, List.getElem_toArray, List.getElem_cons_succ, List.getElem_cons_zero, List.setIfInBounds_toArray, List.set_cons_zero, List.set_cons_succ]
                refine wpAnyH_done (by kernel_rfl) ?_ _
                go_wp2
                go_ret
                have HRP := row_put HP24.out HP.out (by have := HLE.out; omega) O5
                first | exact ⟨_, rfl, _, HP.out, HRP, B5⟩ | exact ⟨_, _, rfl, HP.out, HRP, B5⟩
            · simp only [List.getElem_toArray, List.getElem_cons_succ, List.getElem_cons_zero]
              go_simp
              refine hK.out _ _ trivial (fun hHeld => ?_)
              clear hK K
              try simp only [Act.put, List.getElem_toArray, List.getElem_cons_succ, List.getElem_cons_zero, List.setIfInBounds_toArray, List.set_cons_zero, List.set_cons_succ]
              have B1 : Below w.heap.size w (w.drew.alloc (.cells #[.int .i64 n] 3)) := HB0.alloc HB0.size _
              have c1 : (w.drew.alloc (.cells #[.int .i64 n] 3)).cell? ⟨w.drew.heap.size, 0, none⟩ = some (.int .i64 (n : Nat)) := newC w.drew (.int .i64 (n : Nat)) 3 (n := w.drew.heap.size) rfl
              refine wpAnyH_ready (rs := [0]) (by as_aux_lemma => kernel_rfl) (by simp) ?_
              refine AllReadyH.cons (o := _) rfl (fun K hK => ?_) (AllReadyH.nil)
              simp only [List.getElem_toArray, List.getElem_cons_zero]
              go_simp
              refine hK.out _ _ trivial (fun hHeld => ?_)
              clear hK K
              try simp only [Act.put, List.getElem_toArray, List.getElem_cons_zero, List.setIfInBounds_toArray, List.set_cons_zero, List.set_cons_succ]
              have B2 : Below w.heap.size w ((w.drew.alloc (.cells #[.int .i64 n] 3)).alloc (.cells #[] 3)) := B1.alloc B1.size _
              have O2 : ((w.drew.alloc (.cells #[.int .i64 n] 3)).alloc (.cells #[] 3)).ownsRow w.heap.size 3 1 (.slice (some ⟨(w.drew.alloc (.cells #[.int .i64 n] 3)).heap.size, 0, none⟩) 0 0) 0 [] := by simpa using World.ownsRow_lit (base := w.heap.size) (e := 3) (size := 1) (w.drew.alloc (.cells #[.int .i64 n] 3)) #[] 0 B1.size (by simp [maxLen]) rfl
              have c2 := keepC (Joins.below_alloc1 (w.drew.alloc (.cells #[.int .i64 n] 3)) (.cells #[] 3)) (by simp) c1
              refine wpAnyH_ready (rs := [4]) (by as_aux_lemma => kernel_rfl) (by simp) ?_
              refine AllReadyH.cons (o := _) rfl (fun K hK => ?_) (AllReadyH.nil)
              refine step_append_own rfl (.tmp 33) (.tmp 36) 24 rfl w.heap.size 3 i0 (.int .i64 0) 1 8 Tryz.underlying24 hi0 hz0 hz1 hz2 rfl (by decide) (.slice (some ⟨(w.drew.alloc (.cells #[.int .i64 n] 3)).heap.size, 0, none⟩) 0 0) (0) ([]) (by simp [Act.eval]) O2 ⟨g, 0, none⟩ (t + 1) _ (((NL L).take (t + 1)).map (Value.int .i64)) (by simp [Act.eval] <;> first | rfl | omega) (by rw [List.length_map, List.length_take, NL_len, HLE.out]; omega) (news_take (HI.out.below rfl B2) (t + 1)) (by intro u hu; obtain ⟨y, _, rfl⟩ := List.mem_map.1 hu; rfl) (by unfold maxLen; omega) (by omega) B2.size ?_
              intro v3 w3 O3 hg3
              refine hK.out _ _ trivial (fun hHeld => ?_)
              clear hK K
              try simp only [Act.put, List.getElem_toArray, List.getElem_cons_succ, List.getElem_cons_zero, List.setIfInBounds_toArray, List.set_cons_zero, List.set_cons_succ]
              have B3 : Below w.heap.size w w3 := B2.grown hg3 B2.size (fun q hq => (O2.lt q hq).1)
              have c3 : w3.cell? ⟨w.drew.heap.size, 0, none⟩ = some (.int .i64 (n : Nat)) := hg3.cell c2 (by simp [Value.ownBlock])
              refine wpAnyH_ready (rs := [7]) (by as_aux_lemma => kernel_rfl) (by simp) ?_
              refine AllReadyH.cons (o := _) rfl (fun K hK => ?_) (AllReadyH.nil)
              refine step_append_own rfl (.tmp 37) (.tmp 39) 24 rfl w.heap.size 3 i0 (.int .i64 0) 1 8 Tryz.underlying24 hi0 hz0 hz1 hz2 rfl (by decide) (v3) (0 + t + 1) ([] ++ (((NL L).take (t + 1)).map (Value.int .i64))) (by simp [Act.eval]) O3 ⟨w.drew.heap.size, 0, none⟩ (1) _ [.int .i64 (n : Nat)] (by simp [Act.eval] <;> first | rfl | omega) rfl (news_one c3) (by intro u hu; rw [List.mem_singleton] at hu; subst hu; rfl) (by unfold maxLen; omega) (by omega) B3.size ?_
              intro v4 w4 O4 hg4
              refine hK.out _ _ trivial (fun hHeld => ?_)
              clear hK K
              try simp only [Act.put, List.getElem_toArray, List.getElem_cons_succ, List.getElem_cons_zero, List.setIfInBounds_toArray, List.set_cons_zero, List.set_cons_succ]
              have B4 : Below w.heap.size w w4 := B3.grown hg4 B3.size (fun q hq => (O3.lt q hq).1)
              refine wpAnyH_ready (rs := [11]) (by as_aux_lemma => kernel_rfl) (by simp) ?_
              refine AllReadyH.cons (o := _) rfl (fun K hK => ?_) (AllReadyH.nil)
              refine step_append_own rfl (.tmp 40) (.tmp 43) 24 rfl w.heap.size 3 i0 (.int .i64 0) 1 8 Tryz.underlying24 hi0 hz0 hz1 hz2 rfl (by decide) (v4) (0 + t + 1 + 1) ([] ++ (((NL L).take (t + 1)).map (Value.int .i64)) ++ [.int .i64 (n : Nat)]) (by simp [Act.eval]) O4 ⟨g, 0, none⟩ ((len - (t + 1))) _ (((NL L).drop (t + 1)).map (Value.int .i64)) (by simp [Act.eval] <;> first | rfl | omega) (by rw [List.length_map, List.length_drop, NL_len, HLE.out]; omega) (by rw [HD0.out]; intro j u hu; simp at hu) (by intro u hu; obtain ⟨y, _, rfl⟩ := List.mem_map.1 hu; rfl) (by unfold maxLen; omega) (by omega) B4.size ?_
              intro v5 w5 O5 hg5
              refine hK.out _ _ trivial (fun hHeld => ?_)
              clear hK K
              try simp only [Act.put, List.getElem_toArray, List.getElem_cons_succ, List.getElem_cons_zero, List.setIfInBounds_toArray, List.set_cons_zero, List.set_cons_succ]
              have B5 : Below w.heap.size w w5 := B4.grown hg5 B4.size (fun q hq => (O4.lt q hq).1)
              refine wpAnyH_ready (rs := [12]) (by as_aux_lemma => kernel_rfl) (by simp) ?_
              refine AllReadyH.cons (o := _) rfl (fun K hK => ?_) (AllReadyH.nil)
              simp only [List.getElem_toArray, List.getElem_cons_succ, List.getElem_cons_zero]
              go_simp
              refine hK.out _ _ trivial (fun hHeld => ?_)
              clear hK K
              try simp only [Act.put, List.getElem_toArray, List.getElem_cons_succ, List.getElem_cons_zero, List.setIfInBounds_toArray, List.set_cons_zero, List.set_cons_succ]
              refine wpAnyH_done (by kernel_rfl) ?_ _
              go_wp2
              go_ret
              have HRP := row_put HP24.out HP.out (by have := HLE.out; omega) O5
              first | exact ⟨_, rfl, _, HP.out, HRP, B5⟩ | exact ⟨_, _, rfl, HP.out, HRP, B5⟩
          · go_upto_region 6 with fail
            refine wp_region_held_drew (S := fun _ => True) (by kernel_rfl) trivial (fun hHeld => ?_)
            refine wpAnyH_take (i := 1) (oi := _) (v := ?_) rfl (by as_aux_lemma => kernel_rfl) (by as_aux_lemma => kernel_rfl) (by as_aux_lemma => kernel_rfl) (fun _ _ _ h => h) (Or.inl ⟨by rfl, ?_⟩) (by assumption) ?_
            rotate_left
            · intro W' hSw
              try dsimp only at hSw
              simp only [List.getElem_toArray, List.getElem_cons_succ, List.getElem_cons_zero]
              go_simp
              try with_reducible rfl
            try simp only [Act.put, List.getElem_toArray, List.getElem_cons_succ, List.getElem_cons_zero, List.setIfInBounds_toArray, List.set_cons_zero, List.set_cons_succ]
            refine wpAnyH_take (i := 2) (oi := _) (v := ?_) rfl (by as_aux_lemma => kernel_rfl) (by as_aux_lemma => kernel_rfl) (by as_aux_lemma => kernel_rfl) (fun _ _ _ h => h) (Or.inl ⟨by rfl, ?_⟩) (by assumption) ?_
            rotate_left
            · intro W' hSw
              try dsimp only at hSw
              simp only [List.getElem_toArray, List.getElem_cons_succ, List.getElem_cons_zero]
              go_simp
              try with_reducible rfl
            try simp only [Act.put, List.getElem_toArray, List.getElem_cons_succ, List.getElem_cons_zero, List.setIfInBounds_toArray, List.set_cons_zero, List.set_cons_succ]
            refine wpAnyH_take (i := 3) (oi := _) (v := ?_) rfl (by as_aux_lemma => kernel_rfl) (by as_aux_lemma => kernel_rfl) (by as_aux_lemma => kernel_rfl) (fun _ _ _ h => h) (Or.inl ⟨by rfl, ?_⟩) (by assumption) ?_
            rotate_left
            · intro W' hSw
              try dsimp only at hSw
              simp only [List.getElem_toArray, List.getElem_cons_succ, List.getElem_cons_zero]
              go_simp
              try with_reducible rfl
            try simp only [Act.put, List.getElem_toArray, List.getElem_cons_succ, List.getElem_cons_zero, List.setIfInBounds_toArray, List.set_cons_zero, List.set_cons_succ]
            refine wpAnyH_take (i := 5) (oi := _) (v := ?_) rfl (by as_aux_lemma => kernel_rfl) (by as_aux_lemma => kernel_rfl) (by as_aux_lemma => kernel_rfl) (fun _ _ _ h => h) (Or.inl ⟨by rfl, ?_⟩) (by assumption) ?_
            rotate_left
            · intro W' hSw
              try dsimp only at hSw
              simp only [List.getElem_toArray, List.getElem_cons_succ, List.getElem_cons_zero]
              go_simp
              try with_reducible rfl
            try simp only [Act.put, List.getElem_toArray, List.getElem_cons_succ, List.getElem_cons_zero, List.setIfInBounds_toArray, List.set_cons_zero, List.set_cons_succ]
            refine wpAnyH_take (i := 8) (oi := _) (v := ?_) rfl (by as_aux_lemma => kernel_rfl) (by as_aux_lemma => kernel_rfl) (by as_aux_lemma => kernel_rfl) (fun _ _ _ h => h) (Or.inl ⟨by rfl, ?_⟩) (by assumption) ?_
            rotate_left
            · intro W' hSw
              try dsimp only at hSw
              simp only [List.getElem_toArray, List.getElem_cons_succ, List.getElem_cons_zero]
              go_simp
              try with_reducible rfl
            try simp only [Act.put, List.getElem_toArray, List.getElem_cons_succ, List.getElem_cons_zero, List.setIfInBounds_toArray, List.set_cons_zero, List.set_cons_succ]
            refine wpAnyH_take (i := 9) (oi := _) (v := ?_) rfl (by as_aux_lemma => kernel_rfl) (by as_aux_lemma => kernel_rfl) (by as_aux_lemma => kernel_rfl) (fun _ _ _ h => h) (Or.inl ⟨by rfl, ?_⟩) (by assumption) ?_
            rotate_left
            · intro W' hSw
              try dsimp only at hSw
              simp only [List.getElem_toArray, List.getElem_cons_succ, List.getElem_cons_zero]
              go_simp
              try with_reducible rfl
            try simp only [Act.put, List.getElem_toArray, List.getElem_cons_succ, List.getElem_cons_zero, List.setIfInBounds_toArray, List.set_cons_zero, List.set_cons_succ]
            refine wpAnyH_take (i := 10) (oi := _) (v := ?_) rfl (by as_aux_lemma => kernel_rfl) (by as_aux_lemma => kernel_rfl) (by as_aux_lemma => kernel_rfl) (fun _ _ _ h => h) (Or.inl ⟨by rfl, ?_⟩) (by assumption) ?_
            rotate_left
            · intro W' hSw
              try dsimp only at hSw
              simp only [List.getElem_toArray, List.getElem_cons_succ, List.getElem_cons_zero]
              go_simp
              try with_reducible rfl
            try simp only [Act.put, List.getElem_toArray, List.getElem_cons_succ, List.getElem_cons_zero, List.setIfInBounds_toArray, List.set_cons_zero, List.set_cons_succ]
            have HB0 : Below w.heap.size w w.drew := (Below.refl _ w).drew
            refine wpAnyH_ready (rs := [0, 6]) (by as_aux_lemma => kernel_rfl) (by simp) ?_
            refine AllReadyH.cons (o := _) rfl (fun K hK => ?_) (AllReadyH.cons (o := _) rfl (fun K hK => ?_) (AllReadyH.nil))
            · simp only [List.getElem_toArray, List.getElem_cons_zero]
              go_simp
              refine hK.out _ _ trivial (fun hHeld => ?_)
              clear hK K
              try simp only [Act.put, List.getElem_toArray, List.getElem_cons_zero, List.setIfInBounds_toArray, List.set_cons_zero, List.set_cons_succ]
              have B1 : Below w.heap.size w (w.drew.alloc (.cells #[] 3)) := HB0.alloc HB0.size _
              have O1 : (w.drew.alloc (.cells #[] 3)).ownsRow w.heap.size 3 1 (.slice (some ⟨w.drew.heap.size, 0, none⟩) 0 0) 0 [] := by simpa using World.ownsRow_lit (base := w.heap.size) (e := 3) (size := 1) w.drew #[] 0 HB0.size (by simp [maxLen]) rfl
              refine wpAnyH_ready (rs := [4, 6]) (by as_aux_lemma => kernel_rfl) (by simp) ?_
              refine AllReadyH.cons (o := _) rfl (fun K hK => ?_) (AllReadyH.cons (o := _) rfl (fun K hK => ?_) (AllReadyH.nil))
              · refine step_append_own rfl (.tmp 33) (.tmp 36) 24 rfl w.heap.size 3 i0 (.int .i64 0) 1 8 Tryz.underlying24 hi0 hz0 hz1 hz2 rfl (by decide) (.slice (some ⟨w.drew.heap.size, 0, none⟩) 0 0) (0) ([]) (by simp [Act.eval]) O1 ⟨g, 0, none⟩ (t + 1) _ (((NL L).take (t + 1)).map (Value.int .i64)) (by simp [Act.eval] <;> first | rfl | omega) (by rw [List.length_map, List.length_take, NL_len, HLE.out]; omega) (news_take (HI.out.below rfl B1) (t + 1)) (by intro u hu; obtain ⟨y, _, rfl⟩ := List.mem_map.1 hu; rfl) (by unfold maxLen; omega) (by omega) B1.size ?_
                intro v2 w2 O2 hg2
                refine hK.out _ _ trivial (fun hHeld => ?_)
                clear hK K
                try simp only [Act.put, List.getElem_toArray, List.getElem_cons_succ, List.getElem_cons_zero, List.setIfInBounds_toArray, List.set_cons_zero, List.set_cons_succ]
                have B2 : Below w.heap.size w w2 := B1.grown hg2 B1.size (fun q hq => (O1.lt q hq).1)
                refine wpAnyH_ready (rs := [6]) (by as_aux_lemma => kernel_rfl) (by simp) ?_
                refine AllReadyH.cons (o := _) rfl (fun K hK => ?_) (AllReadyH.nil)
                simp only [List.getElem_toArray, List.getElem_cons_succ, List.getElem_cons_zero]
                go_simp
                refine hK.out _ _ trivial (fun hHeld => ?_)
                clear hK K
                try simp only [Act.put, List.getElem_toArray, List.getElem_cons_succ, List.getElem_cons_zero, List.setIfInBounds_toArray, List.set_cons_zero, List.set_cons_succ]
                have B3 : Below w.heap.size w (w2.alloc (.cells #[.int .i64 n] 3)) := B2.alloc B2.size _
                have c3 : (w2.alloc (.cells #[.int .i64 n] 3)).cell? ⟨w2.heap.size, 0, none⟩ = some (.int .i64 (n : Nat)) := newC w2 (.int .i64 (n : Nat)) 3 (n := w2.heap.size) rfl
                have O3 := owns_below O2 (Joins.below_alloc1 w2 (.cells #[.int .i64 n] 3))
                refine wpAnyH_ready (rs := [7]) (by as_aux_lemma => kernel_rfl) (by simp) ?_
                refine AllReadyH.cons (o := _) rfl (fun K hK => ?_) (AllReadyH.nil)
                refine step_append_own rfl (.tmp 37) (.tmp 39) 24 rfl w.heap.size 3 i0 (.int .i64 0) 1 8 Tryz.underlying24 hi0 hz0 hz1 hz2 rfl (by decide) (v2) (0 + t + 1) ([] ++ (((NL L).take (t + 1)).map (Value.int .i64))) (by simp [Act.eval]) O3 ⟨w2.heap.size, 0, none⟩ (1) _ [.int .i64 (n : Nat)] (by simp [Act.eval] <;> first | rfl | omega) rfl (news_one c3) (by intro u hu; rw [List.mem_singleton] at hu; subst hu; rfl) (by unfold maxLen; omega) (by omega) B3.size ?_
                intro v4 w4 O4 hg4
                refine hK.out _ _ trivial (fun hHeld => ?_)
                clear hK K
                try simp only [Act.put, List.getElem_toArray, List.getElem_cons_succ, List.getElem_cons_zero, List.setIfInBounds_toArray, List.set_cons_zero, List.set_cons_succ]
                have B4 : Below w.heap.size w w4 := B3.grown hg4 B3.size (fun q hq => (O3.lt q hq).1)
                refine wpAnyH_ready (rs := [11]) (by as_aux_lemma => kernel_rfl) (by simp) ?_
                refine AllReadyH.cons (o := _) rfl (fun K hK => ?_) (AllReadyH.nil)
                refine step_append_own rfl (.tmp 40) (.tmp 43) 24 rfl w.heap.size 3 i0 (.int .i64 0) 1 8 Tryz.underlying24 hi0 hz0 hz1 hz2 rfl (by decide) (v4) (0 + t + 1 + 1) ([] ++ (((NL L).take (t + 1)).map (Value.int .i64)) ++ [.int .i64 (n : Nat)]) (by simp [Act.eval]) O4 ⟨g, t + 1, none⟩ ((len - (t + 1))) _ (((NL L).drop (t + 1)).map (Value.int .i64)) (by simp [Act.eval] <;> first | rfl | omega) (by rw [List.length_map, List.length_drop, NL_len, HLE.out]; omega) (news_drop (HI.out.below rfl B4) (t + 1)) (by intro u hu; obtain ⟨y, _, rfl⟩ := List.mem_map.1 hu; rfl) (by unfold maxLen; omega) (by omega) B4.size ?_
                intro v5 w5 O5 hg5
                refine hK.out _ _ trivial (fun hHeld => ?_)
                clear hK K
                try simp only [Act.put, List.getElem_toArray, List.getElem_cons_succ, List.getElem_cons_zero, List.setIfInBounds_toArray, List.set_cons_zero, List.set_cons_succ]
                have B5 : Below w.heap.size w w5 := B4.grown hg5 B4.size (fun q hq => (O4.lt q hq).1)
                refine wpAnyH_ready (rs := [12]) (by as_aux_lemma => kernel_rfl) (by simp) ?_
                refine AllReadyH.cons (o := _) rfl (fun K hK => ?_) (AllReadyH.nil)
                simp only [List.getElem_toArray, List.getElem_cons_succ, List.getElem_cons_zero]
                go_simp
                refine hK.out _ _ trivial (fun hHeld => ?_)
                clear hK K
                try simp only [Act.put, List.getElem_toArray, List.getElem_cons_succ, List.getElem_cons_zero, List.setIfInBounds_toArray, List.set_cons_zero, List.set_cons_succ]
                refine wpAnyH_done (by kernel_rfl) ?_ _
                go_wp2
                go_ret
                have HRP := row_put HP24.out HP.out (by have := HLE.out; omega) O5
                first | exact ⟨_, rfl, _, HP.out, HRP, B5⟩ | exact ⟨_, _, rfl, HP.out, HRP, B5⟩
              · simp only [List.getElem_toArray, List.getElem_cons_succ, List.getElem_cons_zero]
                go_simp
                refine hK.out _ _ trivial (fun hHeld => ?_)
                clear hK K
                try simp only [Act.put, List.getElem_toArray, List.getElem_cons_succ, List.getElem_cons_zero, List.setIfInBounds_toArray, List.set_cons_zero, List.set_cons_succ]
                have B2 : Below w.heap.size w ((w.drew.alloc (.cells #[] 3)).alloc (.cells #[.int .i64 n] 3)) := B1.alloc B1.size _
                have c2 : ((w.drew.alloc (.cells #[] 3)).alloc (.cells #[.int .i64 n] 3)).cell? ⟨(w.drew.alloc (.cells #[] 3)).heap.size, 0, none⟩ = some (.int .i64 (n : Nat)) := newC (w.drew.alloc (.cells #[] 3)) (.int .i64 (n : Nat)) 3 (n := (w.drew.alloc (.cells #[] 3)).heap.size) rfl
                have O2 := owns_below O1 (Joins.below_alloc1 (w.drew.alloc (.cells #[] 3)) (.cells #[.int .i64 n] 3))
                refine wpAnyH_ready (rs := [4]) (by as_aux_lemma => kernel_rfl) (by simp) ?_
                refine AllReadyH.cons (o := _) rfl (fun K hK => ?_) (AllReadyH.nil)
                refine step_append_own rfl (.tmp 33) (.tmp 36) 24 rfl w.heap.size 3 i0 (.int .i64 0) 1 8 Tryz.underlying24 hi0 hz0 hz1 hz2 rfl (by decide) (.slice (some ⟨w.drew.heap.size, 0, none⟩) 0 0) (0) ([]) (by simp [Act.eval]) O2 ⟨g, 0, none⟩ (t + 1) _ (((NL L).take (t + 1)).map (Value.int .i64)) (by simp [Act.eval] <;> first | rfl | omega) (by rw [List.length_map, List.length_take, NL_len, HLE.out]; omega) (news_take (HI.out.below rfl B2) (t + 1)) (by intro u hu; obtain ⟨y, _, rfl⟩ := List.mem_map.1 hu; rfl) (by unfold maxLen; omega) (by omega) B2.size ?_
                intro v3 w3 O3 hg3
                refine hK.out _ _ trivial (fun hHeld => ?_)
                clear hK K
                try simp only [Act.put, List.getElem_toArray, List.getElem_cons_succ, List.getElem_cons_zero, List.setIfInBounds_toArray, List.set_cons_zero, List.set_cons_succ]
                have B3 : Below w.heap.size w w3 := B2.grown hg3 B2.size (fun q hq => (O2.lt q hq).1)
                have c3 : w3.cell? ⟨(w.drew.alloc (.cells #[] 3)).heap.size, 0, none⟩ = some (.int .i64 (n : Nat)) := hg3.cell c2 (by simp [Value.ownBlock])
                refine wpAnyH_ready (rs := [7]) (by as_aux_lemma => kernel_rfl) (by simp) ?_
                refine AllReadyH.cons (o := _) rfl (fun K hK => ?_) (AllReadyH.nil)
                refine step_append_own rfl (.tmp 37) (.tmp 39) 24 rfl w.heap.size 3 i0 (.int .i64 0) 1 8 Tryz.underlying24 hi0 hz0 hz1 hz2 rfl (by decide) (v3) (0 + t + 1) ([] ++ (((NL L).take (t + 1)).map (Value.int .i64))) (by simp [Act.eval]) O3 ⟨(w.drew.alloc (.cells #[] 3)).heap.size, 0, none⟩ (1) _ [.int .i64 (n : Nat)] (by simp [Act.eval] <;> first | rfl | omega) rfl (news_one c3) (by intro u hu; rw [List.mem_singleton] at hu; subst hu; rfl) (by unfold maxLen; omega) (by omega) B3.size ?_
                intro v4 w4 O4 hg4
                refine hK.out _ _ trivial (fun hHeld => ?_)
                clear hK K
                try simp only [Act.put, List.getElem_toArray, List.getElem_cons_succ, List.getElem_cons_zero, List.setIfInBounds_toArray, List.set_cons_zero, List.set_cons_succ]
                have B4 : Below w.heap.size w w4 := B3.grown hg4 B3.size (fun q hq => (O3.lt q hq).1)
                refine wpAnyH_ready (rs := [11]) (by as_aux_lemma => kernel_rfl) (by simp) ?_
                refine AllReadyH.cons (o := _) rfl (fun K hK => ?_) (AllReadyH.nil)
                refine step_append_own rfl (.tmp 40) (.tmp 43) 24 rfl w.heap.size 3 i0 (.int .i64 0) 1 8 Tryz.underlying24 hi0 hz0 hz1 hz2 rfl (by decide) (v4) (0 + t + 1 + 1) ([] ++ (((NL L).take (t + 1)).map (Value.int .i64)) ++ [.int .i64 (n : Nat)]) (by simp [Act.eval]) O4 ⟨g, t + 1, none⟩ ((len - (t + 1))) _ (((NL L).drop (t + 1)).map (Value.int .i64)) (by simp [Act.eval] <;> first | rfl | omega) (by rw [List.length_map, List.length_drop, NL_len, HLE.out]; omega) (news_drop (HI.out.below rfl B4) (t + 1)) (by intro u hu; obtain ⟨y, _, rfl⟩ := List.mem_map.1 hu; rfl) (by unfold maxLen; omega) (by omega) B4.size ?_
                intro v5 w5 O5 hg5
                refine hK.out _ _ trivial (fun hHeld => ?_)
                clear hK K
                try simp only [Act.put, List.getElem_toArray, List.getElem_cons_succ, List.getElem_cons_zero, List.setIfInBounds_toArray, List.set_cons_zero, List.set_cons_succ]
                have B5 : Below w.heap.size w w5 := B4.grown hg5 B4.size (fun q hq => (O4.lt q hq).1)
                refine wpAnyH_ready (rs := [12]) (by as_aux_lemma => kernel_rfl) (by simp) ?_
                refine AllReadyH.cons (o := _) rfl (fun K hK => ?_) (AllReadyH.nil)
                simp only [List.getElem_toArray, List.getElem_cons_succ, List.getElem_cons_zero]
                go_simp
                refine hK.out _ _ trivial (fun hHeld => ?_)
                clear hK K
                try simp only [Act.put, List.getElem_toArray, List.getElem_cons_succ, List.getElem_cons_zero, List.setIfInBounds_toArray, List.set_cons_zero, List.set_cons_succ]
                refine wpAnyH_done (by kernel_rfl) ?_ _
                go_wp2
                go_ret
                have HRP := row_put HP24.out HP.out (by have := HLE.out; omega) O5
                first | exact ⟨_, rfl, _, HP.out, HRP, B5⟩ | exact ⟨_, _, rfl, HP.out, HRP, B5⟩
            · simp only [List.getElem_toArray, List.getElem_cons_succ, List.getElem_cons_zero]
              go_simp
              refine hK.out _ _ trivial (fun hHeld => ?_)
              clear hK K
              try simp only [Act.put, List.getElem_toArray, List.getElem_cons_succ, List.getElem_cons_zero, List.setIfInBounds_toArray, List.set_cons_zero, List.set_cons_succ]
              have B1 : Below w.heap.size w (w.drew.alloc (.cells #[.int .i64 n] 3)) := HB0.alloc HB0.size _
              have c1 : (w.drew.alloc (.cells #[.int .i64 n] 3)).cell? ⟨w.drew.heap.size, 0, none⟩ = some (.int .i64 (n : Nat)) := newC w.drew (.int .i64 (n : Nat)) 3 (n := w.drew.heap.size) rfl
              refine wpAnyH_ready (rs := [0]) (by as_aux_lemma => kernel_rfl) (by simp) ?_
              refine AllReadyH.cons (o := _) rfl (fun K hK => ?_) (AllReadyH.nil)
              simp only [List.getElem_toArray, List.getElem_cons_zero]
              go_simp
              refine hK.out _ _ trivial (fun hHeld => ?_)
              clear hK K
              try simp only [Act.put, List.getElem_toArray, List.getElem_cons_zero, List.setIfInBounds_toArray, List.set_cons_zero, List.set_cons_succ]
              have B2 : Below w.heap.size w ((w.drew.alloc (.cells #[.int .i64 n] 3)).alloc (.cells #[] 3)) := B1.alloc B1.size _
              have O2 : ((w.drew.alloc (.cells #[.int .i64 n] 3)).alloc (.cells #[] 3)).ownsRow w.heap.size 3 1 (.slice (some ⟨(w.drew.alloc (.cells #[.int .i64 n] 3)).heap.size, 0, none⟩) 0 0) 0 [] := by simpa using World.ownsRow_lit (base := w.heap.size) (e := 3) (size := 1) (w.drew.alloc (.cells #[.int .i64 n] 3)) #[] 0 B1.size (by simp [maxLen]) rfl
              have c2 := keepC (Joins.below_alloc1 (w.drew.alloc (.cells #[.int .i64 n] 3)) (.cells #[] 3)) (by simp) c1
              refine wpAnyH_ready (rs := [4]) (by as_aux_lemma => kernel_rfl) (by simp) ?_
              refine AllReadyH.cons (o := _) rfl (fun K hK => ?_) (AllReadyH.nil)
              refine step_append_own rfl (.tmp 33) (.tmp 36) 24 rfl w.heap.size 3 i0 (.int .i64 0) 1 8 Tryz.underlying24 hi0 hz0 hz1 hz2 rfl (by decide) (.slice (some ⟨(w.drew.alloc (.cells #[.int .i64 n] 3)).heap.size, 0, none⟩) 0 0) (0) ([]) (by simp [Act.eval]) O2 ⟨g, 0, none⟩ (t + 1) _ (((NL L).take (t + 1)).map (Value.int .i64)) (by simp [Act.eval] <;> first | rfl | omega) (by rw [List.length_map, List.length_take, NL_len, HLE.out]; omega) (news_take (HI.out.below rfl B2) (t + 1)) (by intro u hu; obtain ⟨y, _, rfl⟩ := List.mem_map.1 hu; rfl) (by unfold maxLen; omega) (by omega) B2.size ?_
              intro v3 w3 O3 hg3
              refine hK.out _ _ trivial (fun hHeld => ?_)
              clear hK K
              try simp only [Act.put, List.getElem_toArray, List.getElem_cons_succ, List.getElem_cons_zero, List.setIfInBounds_toArray, List.set_cons_zero, List.set_cons_succ]
              have B3 : Below w.heap.size w w3 := B2.grown hg3 B2.size (fun q hq => (O2.lt q hq).1)
              have c3 : w3.cell? ⟨w.drew.heap.size, 0, none⟩ = some (.int .i64 (n : Nat)) := hg3.cell c2 (by simp [Value.ownBlock])
              refine wpAnyH_ready (rs := [7]) (by as_aux_lemma => kernel_rfl) (by simp) ?_
              refine AllReadyH.cons (o := _) rfl (fun K hK => ?_) (AllReadyH.nil)
              refine step_append_own rfl (.tmp 37) (.tmp 39) 24 rfl w.heap.size 3 i0 (.int .i64 0) 1 8 Tryz.underlying24 hi0 hz0 hz1 hz2 rfl (by decide) (v3) (0 + t + 1) ([] ++ (((NL L).take (t + 1)).map (Value.int .i64))) (by simp [Act.eval]) O3 ⟨w.drew.heap.size, 0, none⟩ (1) _ [.int .i64 (n : Nat)] (by simp [Act.eval] <;> first | rfl | omega) rfl (news_one c3) (by intro u hu; rw [List.mem_singleton] at hu; subst hu; rfl) (by unfold maxLen; omega) (by omega) B3.size ?_
              intro v4 w4 O4 hg4
              refine hK.out _ _ trivial (fun hHeld => ?_)
              clear hK K
              try simp only [Act.put, List.getElem_toArray, List.getElem_cons_succ, List.getElem_cons_zero, List.setIfInBounds_toArray, List.set_cons_zero, List.set_cons_succ]
              have B4 : Below w.heap.size w w4 := B3.grown hg4 B3.size (fun q hq => (O3.lt q hq).1)
              refine wpAnyH_ready (rs := [11]) (by as_aux_lemma => kernel_rfl) (by simp) ?_
              refine AllReadyH.cons (o := _) rfl (fun K hK => ?_) (AllReadyH.nil)
              refine step_append_own rfl (.tmp 40) (.tmp 43) 24 rfl w.heap.size 3 i0 (.int .i64 0) 1 8 Tryz.underlying24 hi0 hz0 hz1 hz2 rfl (by decide) (v4) (0 + t + 1 + 1) ([] ++ (((NL L).take (t + 1)).map (Value.int .i64)) ++ [.int .i64 (n : Nat)]) (by simp [Act.eval]) O4 ⟨g, t + 1, none⟩ ((len - (t + 1))) _ (((NL L).drop (t + 1)).map (Value.int .i64)) (by simp [Act.eval] <;> first | rfl | omega) (by rw [List.length_map, List.length_drop, NL_len, HLE.out]; omega) (news_drop (HI.out.below rfl B4) (t + 1)) (by intro u hu; obtain ⟨y, _, rfl⟩ := List.mem_map.1 hu; rfl) (by unfold maxLen; omega) (by omega) B4.size ?_
              intro v5 w5 O5 hg5
              refine hK.out _ _ trivial (fun hHeld => ?_)
              clear hK K
              try simp only [Act.put, List.getElem_toArray, List.getElem_cons_succ, List.getElem_cons_zero, List.setIfInBounds_toArray, List.set_cons_zero, List.set_cons_succ]
              have B5 : Below w.heap.size w w5 := B4.grown hg5 B4.size (fun q hq => (O4.lt q hq).1)
              refine wpAnyH_ready (rs := [12]) (by as_aux_lemma => kernel_rfl) (by simp) ?_
              refine AllReadyH.cons (o := _) rfl (fun K hK => ?_) (AllReadyH.nil)
              simp only [List.getElem_toArray, List.getElem_cons_succ, List.getElem_cons_zero]
              go_simp
              refine hK.out _ _ trivial (fun hHeld => ?_)
              clear hK K
              try simp only [Act.put, List.getElem_toArray, List.getElem_cons_succ, List.getElem_cons_zero, List.setIfInBounds_toArray, List.set_cons_zero, List.set_cons_succ]
              refine wpAnyH_done (by kernel_rfl) ?_ _
              go_wp2
              go_ret
              have HRP := row_put HP24.out HP.out (by have := HLE.out; omega) O5
              first | exact ⟨_, rfl, _, HP.out, HRP, B5⟩ | exact ⟨_, _, rfl, HP.out, HRP, B5⟩
        · have HP := Lib.hid (HPS.out h1)
          subst h1
          clear HPS HPN HPU
          go_wp2
          go_ret
          have HR2 : RowL w B (.slice (some ⟨g, 0, none⟩) len cap) L := HRL.out
          first | exact ⟨_, rfl, L, HP.out, HR2, Below.refl _ _⟩ | exact ⟨_, L, rfl, HP.out, HR2, Below.refl _ _⟩
        · have h2 : (n : Int) < (z : Int) := by omega
          have HPX := Lib.hid (HPU.out h1)
          clear HPS HPN HPU
          go_wp2
          go_roundw
          case rel => exact ⟨t, by omega, by go_num, HPX, by first | trivial | rfl⟩
          all_goals (try case measure => simp [intOf]; try omega)
end Go.Proofs.YtaacofbmbpkeoaaGreatDoor
