/- There are at most so many subgroups, and a list of all. -/
import Derived.Test.YtehdneppleifdaaDoorSgSpec
namespace Go.Proofs.YtehdneppleifdaaDoor
open Go.RowKit
theorem clo_fun2 {l : List Int} (hg : grpB l = true) : ∃ C : Nat → Nat, ∀ a, a < 2 ^ 24 → IsClo l a (C a) := by
  obtain ⟨C, hC⟩ := Classical.skolem.1 (fun a : Nat => show ∃ c, a < 2 ^ 24 → IsClo l a c from by
    by_cases h : a < 2 ^ 24
    · obtain ⟨c, hc⟩ := clo_ex hg h
      exact ⟨c, fun _ => hc⟩
    · exact ⟨0, fun h2 => absurd h2 h⟩)
  exact ⟨C, hC⟩
theorem nodup_sub : ∀ (L M : List Nat), L.Nodup → (∀ x ∈ L, x ∈ M) → L.length ≤ M.length
  | [], _, _, _ => Nat.zero_le _
  | a :: r, M, hn, h => by
    have ha := h a (by simp)
    have h1 := nodup_sub r (M.erase a) (List.nodup_cons.1 hn).2 (fun x hx => (List.mem_erase_of_ne (fun e => (List.nodup_cons.1 hn).1 (by rw [← e]; exact hx))).2 (h x (by simp [hx])))
    have h2 := List.length_erase_of_mem ha
    have h3 := List.length_pos_of_mem ha
    simp only [List.length_cons]
    omega
/-- At most so many subgroups. -/
theorem sg_len {l : List Int} {L : List Nat} (h : SgList l L) : L.length ≤ 13824 := by
  cases hg : grpB l with
  | false =>
    obtain rfl : L = [] := by
      apply List.eq_nil_iff_forall_not_mem.2
      intro m hm
      have := ((h.2 m).1 hm).1
      rw [hg] at this
      cases this
    simp
  | true =>
    obtain ⟨C, hC⟩ := clo_fun2 hg
    have hP := (ords_grp hg).prod
    have h1 := nodup_sub L ((List.range 13824).map fun i => sumN l (sumN l (C (2 ^ (i / 576))) (C (2 ^ (i / 24 % 24)))) (C (2 ^ (i % 24)))) (h.1.imp fun h => Nat.ne_of_lt h) (fun s hs => by
      obtain ⟨x, y, z, a, b, c, hx, hy, hz, ha, hb, hc, he⟩ := sum3 hg ((h.2 s).1 hs).2
      have x24 : x < 24 := by omega
      have y24 : y < 24 := by omega
      have z24 : z < 24 := by omega
      have p24 : ∀ k, k < 24 → 2 ^ k < 2 ^ 24 := fun k hk => Nat.pow_lt_pow_right (by decide) hk
      refine List.mem_map.2 ⟨x * 576 + y * 24 + z, List.mem_range.2 (by omega), ?_⟩
      have e1 : (x * 576 + y * 24 + z) / 576 = x := by omega
      have e2 : (x * 576 + y * 24 + z) / 24 % 24 = y := by omega
      have e3 : (x * 576 + y * 24 + z) % 24 = z := by omega
      show sumN l (sumN l (C (2 ^ ((x * 576 + y * 24 + z) / 576))) (C (2 ^ ((x * 576 + y * 24 + z) / 24 % 24)))) (C (2 ^ ((x * 576 + y * 24 + z) % 24))) = s
      rw [e1, e2, e3, (hC _ (p24 x x24)).one ha, (hC _ (p24 y y24)).one hb, (hC _ (p24 z z24)).one hc, he])
    rwa [List.length_map, List.length_range] at h1
theorem sg_ex (l : List Int) : ∃ L, SgList l L := by
  refine ⟨(List.range (2 ^ (prodI l).toNat)).filter fun m => @decide (grpB l = true ∧ IsSg l m) (Classical.propDecidable _), List.pairwise_lt_range.filter _, fun m => ?_⟩
  rw [List.mem_filter, List.mem_range]
  simp only [decide_eq_true_eq]
  exact ⟨fun h => h.2, fun h => ⟨h.2.1, h⟩⟩
end Go.Proofs.YtehdneppleifdaaDoor
