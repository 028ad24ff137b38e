/- The contract of the program's own FormatSet. -/
import Derived.Test.YtkejpikhlejmaaaGreatDoorFmtS
import Derived.Test.YtkejpikhlejmaaaGreatDoorLst
namespace Go.Proofs.YtkejpikhlejmaaaGreatDoor
open Go.RowKit
set_option maxRecDepth 1000000
theorem lstE_nil {l : List Int} {m : Nat} (h : isS l (m : Int) = true) : lstE l m = [] ↔ m = 0 := by
  have h1 := (lstE_yes h).1
  obtain ⟨_, m', e, _, h24⟩ := isS_true h
  obtain rfl : m = m' := by omega
  constructor
  · intro e0
    rw [e0] at h1
    by_cases hz : m = 0
    · exact hz
    · obtain ⟨t, _, _, ht24, hu, _, _⟩ := rest_step (a := m) (k := 0) h24 (by rw [restK_zero]; exact hz)
      have : t ∈ bitsN m := by
        unfold bitsN upK
        rw [List.mem_filter, List.mem_range]
        have h3 : t ∈ upK m (t + 1) := by rw [hu]; simp
        exact ⟨ht24, (upK_mem h3).2⟩
      have := List.length_pos_of_mem this
      simp at h1; omega
  · intro e0
    subst e0
    have : (bitsN 0).length = 0 := by decide
    rw [this] at h1
    exact List.eq_nil_of_length_eq_zero h1
set_option maxHeartbeats 1000000 in
theorem iFmtS (w : World) (a : Option Addr) (l : List Int) (n cap : Nat) (s : Int) (hn : n = l.length) (hm : n ≤ 9223372036854775807) (hi : Ints w a l) (B : Nat) (hB0 : B ≤ w.heap.size) (ht : TabZ B w) :
    Calls Tryz.prog 6 #[.agg #[.slice a n cap], .int .i64 s] w fun e w' => e = .returned (strV (fmtS l s)) ∧ Below w.heap.size w w' := by
  have HTZ := Lib.hid ht
  clear ht
  have HI := Lib.hid (ints_alloc hi (.cells #[.slice a n cap] 26))
  have HN := Lib.hid hn
  have C1 := newC w (.slice a n cap) 26 (n := w.heap.size) rfl
  have HB := Lib.hid (Joins.below_alloc1 w (.cells #[.slice a n cap] 26))
  have T0 := Lib.hid (Below.refl (w.alloc (.cells #[.slice a n cap] 26)).heap.size (w.alloc (.cells #[.slice a n cap] 26)))
  clear hi hn
  cases hs : isS l s with
  | false =>
    have HS := Lib.hid hs
    rw [show fmtS l s = [] by unfold fmtS; rw [if_neg (by simp [hs])]]
    clear hs
    go_enter Tryz.func6, Tryz.ntmps6
    go_wp2_with (go_at_call 34; refine (iSetIn _ _ _ _ _ _ HN.out hm HI.out).mono ?_; unfold SetInPost; rw [HS.out]; rintro e w1 ⟨p, q, r, v, rfl, hv, hb1⟩; clear hv)
    go_ret
    exact ⟨rfl, HB.out.trans (Below.alloc (hb1.mono (by simp)) (Nat.le_trans (by simp) hb1.size) _)⟩
  | true =>
    have HS := Lib.hid hs
    obtain ⟨hg, m, rfl, _, hm24⟩ := isS_true hs
    have HM : Hid (m < 16777216) := Lib.hid hm24
    have HN0 := Lib.hid (lstE_nil hs)
    have HE := Lib.hid (lstE_yes hs)
    by_cases h0 : m = 0
    · rw [show fmtS l m = [110, 111, 110, 101] by unfold fmtS; rw [if_pos hs, if_pos (HN0.out.2 h0)]]
      subst h0
      rw [show (((0 : Nat) : Int)) = 0 from rfl] at HS ⊢
      clear hs hg hm24 HN0 HE HM
      go_enter Tryz.func6, Tryz.ntmps6
      go_wp2_with (go_at_call 34; refine (iSetIn _ _ _ _ _ _ HN.out hm HI.out).mono ?_; unfold SetInPost; rw [HS.out]; rintro e w1 ⟨p, q, r, v, rfl, hv, hb1⟩; obtain ⟨e1, e2, e3, rfl⟩ := hv rfl; clear e1 e2 e3 hv; have T2 := Lib.hid (HB.out.trans (Below.alloc (o := .cells #[.int .i64 p, .int .i64 q, .int .i64 r] 47) (hb1.mono (by simp)) (Nat.le_trans (by simp) hb1.size))))
      go_ret
      exact ⟨rfl, T2.out⟩
    · have HF : Hid (fmtS l m = joinC 44 (lstE l m)) := Lib.hid (by unfold fmtS; rw [if_pos hs, if_neg (fun e => h0 (HN0.out.1 e))])
      have HXB := Lib.hid (lstE_bnd l m)
      have HL24 := Lib.hid (lstE_len l m)
      have hz : ((m : Int) == 0) = false := by simp; omega
      have HLL : Hid (∀ (W : World), B ≤ W.heap.size → TabZ B W → Calls Tryz.prog 36 #[.int .u64 m] W fun e w' => ∃ v, e = .returned v ∧ w'.ownsRow W.heap.size 3 1 v (lstE l m).length ((lstE l m).map (Value.int .i64)) ∧ Below W.heap.size W w') := Lib.hid (fun W h1 h2 => by
        rw [HE.out.1, HE.out.2]; exact iList W m HM.out B h1 h2)
      obtain ⟨XS, HXS⟩ : ∃ XS, Hid (lstE l m = XS) := ⟨_, Lib.hid rfl⟩
      rw [HXS.out] at HF HXB HL24 HLL
      clear hs hg hm24 h0 HN0 HE
      go_enter Tryz.func6, Tryz.ntmps6
      go_wp2_with (first
        | (go_at_call 35; refine (iJoin _ _ XS _ _ 44 rfl HL24.out HXB.out I3.out).mono ?_; rintro e w5 ⟨rfl, hb5⟩)
        | (go_at_call 36; refine (HLL.out _ (Nat.le_trans hB0 (Nat.le_trans (by simp) T2.out.size)) (HTZ.out.on (T2.out.mono hB0))).mono ?_; rintro e w3 ⟨v3, rfl, ho3, hb3⟩; obtain ⟨a3, cap3, rfl⟩ := own_slice ho3; have I3 := Lib.hid (own_ints ho3); have T3 := Lib.hid (T2.out.trans (hb3.mono T2.out.size)); clear ho3 hb3)
        | (go_at_call 34; refine (iSetIn _ _ _ _ _ _ HN.out hm HI.out).mono ?_; unfold SetInPost; rw [HS.out]; rintro e w1 ⟨p, q, r, v, rfl, hv, hb1⟩; obtain ⟨e1, e2, e3, rfl⟩ := hv rfl; clear e1 e2 e3 hv; have T2 := Lib.hid (HB.out.trans (Below.alloc (o := .cells #[.int .i64 p, .int .i64 q, .int .i64 r] 47) (hb1.mono (by simp)) (Nat.le_trans (by simp) hb1.size)))))
      go_ret
      exact ⟨by rw [HF.out]; rfl, T3.out.trans (hb5.mono T3.out.size)⟩
end Go.Proofs.YtkejpikhlejmaaaGreatDoor
