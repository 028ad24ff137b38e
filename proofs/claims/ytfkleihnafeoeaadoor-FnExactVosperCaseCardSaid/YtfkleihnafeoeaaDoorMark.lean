/- Rows of the law's own that are marked and held: what marking leaves, what holding finds; a result that is a slice. -/
import Derived.Test.YtfkleihnafeoeaaDoorGrpSpec6
import Derived.Deep.RegionHeld3
import Derived.Deep.DeepCutAuto
namespace Go.Proofs.YtfkleihnafeoeaaDoor
open Go.RowKit
set_option maxRecDepth 1000000
theorem own_slice {w : World} {B : Nat} {v : Value} {l : List Int} (h : w.ownsRow B 3 1 v l.length (l.map (Value.int .i64))) : ∃ a cap, v = .slice a l.length cap := by
  obtain ⟨h1, h2⟩ := h
  rcases h2 with ⟨h2, h3⟩ | ⟨g, cap, cur, hv, _⟩
  · have : l = [] := by simpa using h3
    subst this
    exact ⟨none, 0, h2⟩
  · exact ⟨_, cap, hv⟩
theorem own_ints {w : World} {B cap : Nat} {a : Option Addr} {l : List Int} (h : w.ownsRow B 3 1 (.slice a l.length cap) l.length (l.map (Value.int .i64))) : Ints w a l := by
  obtain ⟨h1, h2⟩ := h
  rcases h2 with ⟨h2, h3⟩ | ⟨g, cap, cur, hv, hb, hg, h4, h5, h6, h7⟩
  · exact .inl (by simpa using h3)
  · cases hv
    exact ints_own ⟨h1, .inr ⟨g, cap, cur, rfl, hb, hg, h4, h5, h6, h7⟩⟩
theorem markRow (w : World) (B : Nat) (a : Option Addr) (l : List Int) (n cap : Nat) (k : Int) (kn : Nat) (hk : k = (kn : Int)) (hn : n = l.length) (hl : n ≤ 1048576) (hkn : kn ≤ 1048576)
    (ho : w.ownsRow B 3 1 (.slice a n cap) n (l.map (Value.int .i64))) :
    Calls Tryd.prog 16 #[.slice a n cap, .int .i64 k] w fun e w' => e = .returned (.int .i64 ((kn + n : Nat) : Int)) ∧ w'.ownsRow B 3 1 (.slice a n cap) n ((upI kn n).map (Value.int .i64)) ∧ w.grownBy w' (Value.slice a n cap).ownBlock := by
  obtain ⟨h1, h2⟩ := ho
  rcases h2 with ⟨h2, h3⟩ | ⟨g, cap', cur, hv, hb, hg, h4, h5, h6, h7⟩
  · cases h2
    subst hk
    clear h1 h3 hn hl
    go_enter Tryd.func16, Tryd.ntmps16
    go_wp2
    refine wp_loop_rounds 1 ?_
    rw [rounds_succ]; go_wp2
    go_ret
    exact ⟨rfl, World.ownsRow_nil _ _ _ _, World.grownBy.refl _ _⟩
  · cases hv
    exact markInts_any w B g l n cap k kn hk hn hl hkn ⟨h1, .inr ⟨g, cap, cur, rfl, hb, hg, h4, h5, h6, h7⟩⟩
theorem markGroup_any (w : World) (B g : Nat) (l : List Int) (n cap : Nat) (k : Int) (kn : Nat) (hk : k = (kn : Int)) (hn : n = l.length) (hl : n ≤ 1048576) (hkn : kn ≤ 1048576)
    (ho : w.ownsRow B 3 1 (.slice (some ⟨g, 0, none⟩) n cap) n (l.map (Value.int .i64))) :
    Calls Tryd.prog 15 #[.agg #[.slice (some ⟨g, 0, none⟩) n cap], .int .i64 k] w fun e w' => e = .returned (.int .i64 ((kn + n : Nat) : Int)) ∧ w'.ownsRow B 3 1 (.slice (some ⟨g, 0, none⟩) n cap) n ((upI kn n).map (Value.int .i64)) ∧ w.grownBy w' (some g) := by
  have HO := Lib.hid (owns_below ho (Joins.below_alloc1 w (.cells #[.slice (some ⟨g, 0, none⟩) n cap] 27)))
  have HN := Lib.hid hn
  have HK := Lib.hid hk
  clear ho hn hk
  go_enter Tryd.func15, Tryd.ntmps15
  go_wp2_with (go_at_call 16; refine (markInts_any _ _ _ _ _ _ _ kn HK.out HN.out hl hkn HO.out).mono ?_; rintro e w1 ⟨rfl, ho1, hg1⟩)
  go_ret
  exact ⟨rfl, ho1, grownG_trans (World.grownBy_alloc w _ _) hg1⟩
theorem ne_blocks {x y : Option Nat} {N : Nat} (hA : ∀ k, x = some k → k < N) (hB : ∀ k, y = some k → N ≤ k) : x = none ∨ x ≠ y := by
  cases x with
  | none => exact .inl rfl
  | some k => exact .inr (fun e => by have h1 := hA k rfl; have h2 := hB k e.symm; omega)
theorem ne_blocks' {x y : Option Nat} {N : Nat} (hA : ∀ k, x = some k → N ≤ k) (hB : ∀ k, y = some k → k < N) : x = none ∨ x ≠ y := by
  cases x with
  | none => exact .inl rfl
  | some k => exact .inr (fun e => by have h1 := hA k rfl; have h2 := hB k e.symm; omega)
end Go.Proofs.YtfkleihnafeoeaaDoor
