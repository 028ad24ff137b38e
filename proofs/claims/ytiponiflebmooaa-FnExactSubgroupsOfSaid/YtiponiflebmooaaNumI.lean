/- A row of sets, and the numbers of its sets: numbersOf. -/
import Derived.Test.YtiponiflebmooaaGNA
import Derived.Test.YtiponiflebmooaaSHA
namespace Go.Proofs.Ytiponiflebmooaa
open Go.RowKit Go.Shelf
attribute [local go_sem] Oper.semAt_some
set_option maxRecDepth 1000000
theorem eleInfo : (Try.prog.info? 50).map (fun i => (i.zero, i.size, i.bytes)) = some (some (.int .u64 0), 1, 8) := by kernel_rfl
/-- A row of sets that can be read. -/
def Els (w : World) (a : Option Addr) (L : List Nat) : Prop := L = [] ∨ ∃ b off, a = some ⟨b, off, none⟩ ∧ b < w.heap.size ∧ ∀ i, i < L.length → w.cell? ⟨b, off + i, none⟩ = some (.int .u64 ((L.getD i 0 : Nat) : Int))
def elV (x : Nat) : Value := .int .u64 ((x : Nat) : Int)
theorem els_own {w : World} {B n : Nat} {v : Value} {L : List Nat} (hn : n = L.length) (h : w.ownsRow B 50 1 v n (L.map elV)) : ∃ a cap, v = .slice a n cap ∧ Els w a L := by
  subst hn
  have h0 := h
  obtain ⟨_, h2⟩ := h
  rcases h2 with ⟨h2, h3⟩ | ⟨g, cap, cur, rfl, _, _⟩
  · have hl : L = [] := by simpa using h3
    subst hl
    exact ⟨none, 0, h2, .inl rfl⟩
  · refine ⟨some ⟨g, 0, none⟩, cap, rfl, ?_⟩
    by_cases hl : L = []
    · exact .inl hl
    · refine .inr ⟨g, 0, rfl, (h0.lt g rfl).2, fun i hi => ?_⟩
      have hg := h0.cellAt i (by omega)
      rw [show (⟨g, 0 + i, none⟩ : Addr) = ⟨g, i, none⟩ by simp, hg]
      simp [List.getD, hi, elV]
theorem Els.below {w w' : World} {a : Option Addr} {L : List Nat} (h : Els w a L) (hb : Below w.heap.size w w') : Els w' a L := by
  rcases h with h | ⟨b, off, h1, h2, h3⟩
  · exact .inl h
  · exact .inr ⟨b, off, h1, Nat.lt_of_lt_of_le h2 hb.size, fun i hi => (hb.cell (by simpa using h2)).trans (h3 i hi)⟩
/-- Sets as their numbers. -/
def NLi (L : List Nat) : List Int := L.map fun (x : Nat) => (x : Int)
theorem NLi_len (L : List Nat) : (NLi L).length = L.length := by simp [NLi]
theorem NLi_at (L : List Nat) (k : Nat) (h : k < L.length) : (NLi L).getD k 0 = ((L.getD k 0 : Nat) : Int) := by simp [NLi, List.getD, h]
set_option maxHeartbeats 1000000 in
theorem iNumbers (w : World) (a : Option Addr) (L : List Nat) (n cap : Nat) (hn : n = L.length) (hl : n ≤ 1048576) (hlt : ∀ x ∈ L, x < 16777216) (he : Els w a L) :
    Calls Try.prog 21 #[.slice a n cap] w fun e w' => e = .returned (.slice (some ⟨w.heap.size, 0, none⟩) n n) ∧ w'.ownsRow w.heap.size 3 1 (.slice (some ⟨w.heap.size, 0, none⟩) n n) n ((NLi L).map (Value.int .i64)) ∧ Below w.heap.size w w' := by
  have HE := Lib.hid he
  have HLT := Lib.hid hlt
  have HN : Hid (n = (NLi L).length) := Lib.hid (by rw [NLi_len]; exact hn)
  have HNL := Lib.hid hn
  clear he hlt hn
  obtain ⟨i0, hi, hz0, hz1, hz2⟩ := info_parts intInfo
  go_enter Try.func21, Try.ntmps21
  go_wp2_with (at_make; refine wpList_make_full _ rfl _ _ 22 rfl w.heap.size 3 i0 (.int .i64 0) 1 Try.underlying22 hi hz0 hz1 .i64 .i64 _ _ n rfl rfl ?c0 ?c00 ?c1 ?c2 ?c3 ?_)
  case c0 => rfl
  case c00 => rfl
  case c1 => rw [hz2]; omega
  case c2 => unfold maxLen; omega
  case c3 => omega
  intro w1 hown hgrow
  have hrow : w1.ownsRow w.heap.size 3 1 (.slice (some ⟨w.heap.size, 0, none⟩) n n) n (rowI (NLi L) 0) := by rw [rowI_zero, ← HN.out]; simpa using hown
  have hbel1 : Below w.heap.size w w1 := (Below.refl _ w).grown hgrow (Nat.le_refl _) (fun q hq => by cases hq)
  clear hown hgrow
  go_wp2
  go_loopw [11] (fun i wr => ∃ k : Nat, k ≤ n ∧ i = .int .i64 k ∧ wr.ownsRow w.heap.size 3 1 (.slice (some ⟨w.heap.size, 0, none⟩) n n) n (rowI (NLi L) k) ∧ Below w.heap.size w wr) (fun i _ => n - (intOf i).toNat)
  case atStart => exact ⟨0, Nat.zero_le _, rfl, hrow, hbel1⟩
  case round =>
    obtain ⟨k, hk, rfl, hr, hbel⟩ := hrel
    by_cases hlt : k < n
    · have hkl : k < L.length := by rw [← HNL.out]; exact hlt
      have hkn : k < (NLi L).length := by rw [← HN.out]; exact hlt
      rcases HE.out with h0 | ⟨b, off, ha, hbl, hc⟩
      · rw [h0] at hkl; simp at hkl
      · subst ha
        have hread : wr.cell? ⟨b, off + k, none⟩ = some (.int .u64 ((L.getD k 0 : Nat) : Int)) := by rw [hbel.cell (by simpa using hbl)]; exact hc k hkl
        have hfr := hr.frozenAt k
        have hcell : wr.cell? ⟨w.heap.size, k, none⟩ = some (.int .i64 0) := (hr.cellAt k (by omega)).trans (by rw [rowI_at _ _ _ hkn, if_neg (by omega)])
        have hst := (hr.stored k (.int .i64 ((NLi L).getD k 0))).1
        rw [rowI_set _ _ hkn, NLi_at _ _ hkl] at hst
        have HST := Lib.hid hst
        have hz : L.getD k 0 < 16777216 := HLT.out _ (by simp [List.getD, hkl])
        generalize L.getD k 0 = z at hread HST hz
        clear hst hc hkl hkn
        go_wp2
        go_roundw
        case rel => exact ⟨k + 1, by omega, by go_num, HST.out, hbel.setCell (Nat.le_refl _) _⟩
        case measure => simp [intOf]; omega
    · obtain rfl : k = n := by omega
      have hr2 := hr
      rw [show rowI (NLi L) k = (NLi L).map (Value.int .i64) by rw [HN.out, rowI_full]] at hr2
      have HR := Lib.hid hr2
      clear hr hr2
      go_wp2
      go_ret
      exact ⟨rfl, HR.out, hbel⟩
end Go.Proofs.Ytiponiflebmooaa
