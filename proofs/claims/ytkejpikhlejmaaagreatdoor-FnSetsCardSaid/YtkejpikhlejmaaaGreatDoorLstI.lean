/- The contract of the program's own ListOf. -/
import Derived.Test.YtkejpikhlejmaaaGreatDoorLst
import Derived.Test.YtkejpikhlejmaaaGreatDoorLSTA
namespace Go.Proofs.YtkejpikhlejmaaaGreatDoor
open Go.RowKit
set_option maxRecDepth 1000000
theorem iListOf (w : World) (a : Option Addr) (l : List Int) (n cap : Nat) (s : Int) (hn : n = l.length) (hm : n ≤ 9223372036854775807) (hi : Ints w a l) (B : Nat) (hB0 : B ≤ w.heap.size) (ht : TabZ B w) :
    Calls Tryz.prog 8 #[.agg #[.slice a n cap], .int .i64 s] w fun e w' => ∃ v, e = .returned v ∧ w'.ownsRow w.heap.size 3 1 v (lstE l s).length ((lstE l s).map (Value.int .i64)) ∧ Below w.heap.size w w' := by
  have HT := Lib.hid ht
  clear ht
  have HI := Lib.hid (ints_alloc hi (.cells #[.slice a n cap] 26))
  have HN := Lib.hid hn
  have C1 := newC w (.slice a n cap) 26 (n := w.heap.size) rfl
  have HB := Lib.hid (Joins.below_alloc1 w (.cells #[.slice a n cap] 26))
  have T0 := Lib.hid (Below.refl (w.alloc (.cells #[.slice a n cap] 26)).heap.size (w.alloc (.cells #[.slice a n cap] 26)))
  clear hi hn
  cases hs : isS l s with
  | false =>
    have HS := Lib.hid hs
    rw [lstE_no hs]
    clear hs
    go_enter Tryz.func8, Tryz.ntmps8
    go_wp2_with (go_at_call 34; refine (iSetIn _ _ _ _ _ _ HN.out hm HI.out).mono ?_; unfold SetInPost; rw [HS.out]; rintro e w1 ⟨p, q, r, v, rfl, hv, hb1⟩; clear hv)
    go_ret
    exact ⟨_, rfl, World.ownsRow_nil _ _ _ _, HB.out.trans (Below.alloc (hb1.mono (by simp)) (Nat.le_trans (by simp) hb1.size) _)⟩
  | true =>
    have HS := Lib.hid hs
    obtain ⟨hg, m, rfl, _, hm24⟩ := isS_true hs
    have HE := Lib.hid (lstE_yes hs)
    rw [HE.out.1, HE.out.2]
    have HM := Lib.hid hm24
    clear hs hg hm24
    go_enter Tryz.func8, Tryz.ntmps8
    go_wp2_with (first
      | (go_at_call 36; refine (iList _ m HM.out B (Nat.le_trans hB0 (Nat.le_trans (by simp) T2.out.size)) (HT.out.on (T2.out.mono hB0))).mono ?_; rintro e w3 ⟨v3, rfl, ho3, hb3⟩)
      | (go_at_call 34; refine (iSetIn _ _ _ _ _ _ HN.out hm HI.out).mono ?_; unfold SetInPost; rw [HS.out]; rintro e w1 ⟨p, q, r, v, rfl, hv, hb1⟩; obtain ⟨e1, e2, e3, rfl⟩ := hv rfl; clear e1 e2 e3 hv; have T2 := Lib.hid (HB.out.trans (Below.alloc (o := .cells #[.int .i64 p, .int .i64 q, .int .i64 r] 47) (hb1.mono (by simp)) (Nat.le_trans (by simp) hb1.size)))))
    go_ret
    exact ⟨_, rfl, Joins.ownsRow_le ho3 (Nat.le_trans (by simp) T2.out.size), T2.out.trans (hb3.mono (Nat.le_trans (by simp) T2.out.size))⟩
end Go.Proofs.YtkejpikhlejmaaaGreatDoor
