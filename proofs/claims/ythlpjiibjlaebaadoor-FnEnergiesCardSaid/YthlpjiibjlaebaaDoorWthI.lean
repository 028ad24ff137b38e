/- Whether all numbers of a list are within a limit: the program's own. -/
import Derived.Test.YthlpjiibjlaebaaDoorMGAE
import Derived.Test.YthlpjiibjlaebaaDoorMGAA
namespace Go.Proofs.YthlpjiibjlaebaaDoor
open Go.RowKit
set_option maxRecDepth 1000000
def wOk8 (c x : Int) : Bool := decide (-c ≤ x) && decide (x ≤ c)
theorem iWth8 (w : World) (c x : Int) (b : Nat) (c0 : 0 ≤ c) (c1 : c ≤ 1000000) (hb : w.cell? ⟨b, 0, none⟩ = some (.int .i64 c)) : Calls Tryd.prog 117 #[.int .i64 x, .pointer (some ⟨b, 0, none⟩)] w fun e w' => e = .returned (.bool (!wOk8 c x)) ∧ w = w' := by
  have hw : IntKind.i64.wrap (-c) = -c := by rw [IntKind.wrap_i64]; omega
  by_cases h1 : x < -c
  · have hd : wOk8 c x = false := by simp [wOk8]; omega
    rw [hd]
    go_enter Tryd.func117, Tryd.ntmps117
    go_wp2
    go_ret
    exact ⟨rfl, rfl⟩
  · by_cases h2 : x > c
    · have hd : wOk8 c x = false := by simp [wOk8]; omega
      rw [hd]
      go_enter Tryd.func117, Tryd.ntmps117
      go_wp2
      go_ret
      exact ⟨rfl, rfl⟩
    · have hd : wOk8 c x = true := by simp [wOk8]; omega
      rw [hd]
      go_enter Tryd.func117, Tryd.ntmps117
      go_wp2
      go_ret
      exact ⟨rfl, rfl⟩
theorem iIdx8 (w : World) (a : Option Addr) (p : List Int) (n cap : Nat) (c : Int) (bc : Nat) (c0 : 0 ≤ c) (c1 : c ≤ 1000000) (hcc : w.cell? ⟨bc, 0, none⟩ = some (.int .i64 c)) (hn : n = p.length) (hm : n ≤ 9223372036854775807) (hi : Ints w a p) :
    Calls Tryd.prog 120 #[.slice a n cap, .func (.func 117) #[] #[.pointer (some ⟨bc, 0, none⟩)]] w fun e w' => (∃ v : Int, e = .returned (.int .i64 v) ∧ decide (0 ≤ v) = !(p.all fun x => wOk8 c x)) ∧ w = w' := by
  have HI := Lib.hid hi
  have HIW := Lib.hid (fun x => iWth8 w c x bc c0 c1 hcc)
  have HN := Lib.hid hn
  have HNO : Hid (∀ k, k < p.length → wOk8 c (p.getD k 0) = false → (p.all fun x => wOk8 c x) = false) := Lib.hid (fun k hk h => by
    rw [List.all_eq_false]
    exact ⟨p.getD k 0, by simp [List.getD, hk], by rw [h]; simp⟩)
  have HAL : Hid ((∀ k, k < p.length → wOk8 c (p.getD k 0) = true) → (p.all fun x => wOk8 c x) = true) := Lib.hid (fun h => by
    rw [List.all_eq_true]
    intro x hx
    obtain ⟨k, hk, rfl⟩ := List.getElem_of_mem hx
    have := h k hk
    simpa [List.getD, hk] using this)
  obtain ⟨r, hr⟩ : ∃ r, (p.all fun x => wOk8 c x) = r := ⟨_, rfl⟩
  rw [hr] at HNO HAL
  rw [hr]
  clear hi hn hr hcc
  go_enter Tryd.func120, Tryd.ntmps120
  go_wp2
  go_loopw [8] (fun i wr => ∃ k : Nat, k ≤ n ∧ i = .int .i64 k ∧ Hid (∀ j, j < k → wOk8 c (p.getD j 0) = true) ∧ w = wr) (fun i _ => n - (intOf i).toNat)
  case atStart => exact ⟨0, Nat.zero_le _, rfl, Lib.hid (fun j hj => absurd hj (by omega)), rfl⟩
  case round =>
    obtain ⟨k, hk, rfl, HOK, rfl⟩ := hrel
    by_cases hlt : k < n
    · have hkl : k < p.length := by rw [← HN.out]; exact hlt
      rcases HI.out with h0 | ⟨b, off, ha, hbl, hc⟩
      · rw [h0] at hkl; simp at hkl
      · subst ha
        have r1 := hc k hkl
        have HNK := Lib.hid (HNO.out k hkl)
        have HNX : Hid (wOk8 c (p.getD k 0) = true → ∀ j, j < k + 1 → wOk8 c (p.getD j 0) = true) := Lib.hid (fun h j hj => by
          by_cases hjk : j < k
          · exact HOK.out j hjk
          · obtain rfl : j = k := by omega
            exact h)
        obtain ⟨x, hx⟩ : ∃ x, p.getD k 0 = x := ⟨_, rfl⟩
        rw [hx] at r1 HNK HNX
        clear hc hkl hbl hx
        cases hok : wOk8 c x with
        | true =>
          have HE := Lib.hid hok
          have HN2 := Lib.hid (HNX.out hok)
          clear hok HNK HNX
          go_wp2_with (go_at_call 117; refine (HIW.out x).mono ?_; rw [HE.out]; rintro e w5 ⟨rfl, rfl⟩)
          go_roundw
          case rel => exact ⟨k + 1, by omega, by go_num, HN2, by first | trivial | rfl⟩
          case measure => simp [intOf]; omega
        | false =>
          have HE := Lib.hid hok
          have hrr := HNK.out hok
          subst hrr
          clear hok HNK HNX
          go_wp2_with (go_at_call 117; refine (HIW.out x).mono ?_; rw [HE.out]; rintro e w5 ⟨rfl, rfl⟩)
          go_ret
          exact ⟨⟨_, rfl, by simp⟩, rfl⟩
    · obtain rfl : k = n := by omega
      have hrr := HAL.out (fun j hj => HOK.out j (by rw [HN.out]; exact hj))
      subst hrr
      go_wp2
      go_ret
      exact ⟨⟨_, rfl, by simp⟩, rfl⟩
theorem iCon8 (w : World) (a : Option Addr) (p : List Int) (n cap : Nat) (c : Int) (bc : Nat) (c0 : 0 ≤ c) (c1 : c ≤ 1000000) (hcc : w.cell? ⟨bc, 0, none⟩ = some (.int .i64 c)) (hn : n = p.length) (hm : n ≤ 9223372036854775807) (hi : Ints w a p) :
    Calls Tryd.prog 116 #[.slice a n cap, .func (.func 117) #[] #[.pointer (some ⟨bc, 0, none⟩)]] w fun e w' => e = .returned (.bool (!(p.all fun x => wOk8 c x))) ∧ w = w' := by
  have HI := Lib.hid hi
  have HCC := Lib.hid hcc
  have HN := Lib.hid hn
  obtain ⟨r, hr⟩ : ∃ r, (p.all fun x => wOk8 c x) = r := ⟨_, rfl⟩
  have HR := Lib.hid hr
  rw [hr]
  clear hi hn hr hcc
  go_enter Tryd.func116, Tryd.ntmps116
  go_wp2_with (go_at_call 120; refine (iIdx8 _ _ p _ _ c bc c0 c1 HCC.out HN.out hm HI.out).mono ?_; rw [HR.out]; rintro e w5 ⟨⟨v, rfl, hv⟩, rfl⟩; have HV := Lib.hid hv; clear hv)
  go_ret
  exact ⟨by rw [← HV.out]; rfl, rfl⟩
theorem iWthn8 (w : World) (a : Option Addr) (p : List Int) (n cap : Nat) (c : Int) (c0 : 0 ≤ c) (c1 : c ≤ 1000000) (hn : n = p.length) (hm : n ≤ 9223372036854775807) (hi : Ints w a p) :
    Calls Tryd.prog 112 #[.slice a n cap, .int .i64 c] w fun e w' => e = .returned (.bool (p.all fun x => wOk8 c x)) ∧ Below w.heap.size w w' := by
  have HI := Lib.hid (ints_alloc hi (.cells #[.int .i64 c] 3))
  have HN := Lib.hid hn
  have HCC := Lib.hid (newC w (.int .i64 c) 3 (n := w.heap.size) rfl)
  have HB := Lib.hid (Joins.below_alloc1 w (.cells #[.int .i64 c] 3))
  have hmf : ∀ (fn : Fn) (first cap : Array Value) (w : World), (Instr.makeFunc fn first cap).run Tryd.prog w = .ok (.func fn first cap) w := fun _ _ _ _ => rfl
  obtain ⟨r, hr⟩ : ∃ r, (p.all fun x => wOk8 c x) = r := ⟨_, rfl⟩
  have HR := Lib.hid hr
  rw [hr]
  clear hi hn hr
  go_enter Tryd.func112, Tryd.ntmps112
  go_wp2_with (go_at_call 116; refine (iCon8 _ _ p _ _ c _ c0 c1 HCC.out HN.out hm HI.out).mono ?_; rw [HR.out]; rintro e w5 ⟨rfl, rfl⟩)
  go_ret
  exact ⟨by simp, HB.out⟩
end Go.Proofs.YthlpjiibjlaebaaDoor
