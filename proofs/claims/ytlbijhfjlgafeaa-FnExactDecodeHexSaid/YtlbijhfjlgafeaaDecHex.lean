/- The contracts of the two texts' digit readers and of spec.DecodeHex. -/
import Derived.Test.YtlbijhfjlgafeaaHexPlain
namespace Go.Proofs.Ytlbijhfjlgafeaa
open Go.RowKit
theorem digit_q (k : Nat) (hk : k < 16) (w : World) :
    Calls Try.prog 22 #[.int .i64 k] w fun e w' => e = .returned (.int .u8 ((hexD k).toNat : Int)) ∧ w = w' :=
  (digit_any k k rfl hk w).mono fun _ _ ⟨h, hw⟩ => ⟨h, hw.symm⟩
/-- The number that the reader answers: the digit's, or -1. -/
def fromH (c : Nat) : Int := match hexV c with | some v => v | none => -1
theorem fromHex_any (c : UInt8) (w : World) :
    Calls Try.prog 24 #[.int .u8 (c.toNat : Int)] w fun e w' => e = .returned (.int .i64 (fromH c.toNat)) ∧ w = w' := by
  go_enter Try.func24, Try.ntmps24
  go_wp2
  go_loop [3] (fun i => ∃ k : Nat, k ≤ 16 ∧ i = .int .i64 k ∧ Hid (∀ q, q < k → hexV c.toNat ≠ some q)) (fun i => 16 - (intOf i).toNat)
  case atStart => exact ⟨0, by omega, rfl, Lib.hid (fun q h => by omega)⟩
  case round =>
    obtain ⟨k, hk, rfl, HH⟩ := hrel
    by_cases hlt : k < 16
    · by_cases he : hexV c.toNat = some k
      · have h1 := hexD_of he
        have hd : (((hexD k).toNat : Int) == (c.toNat : Int)) = true := by simp [h1]
        have hf : fromH c.toNat = k := by unfold fromH; rw [he]
        have HF := Lib.hid hf
        clear he h1 hf
        go_wp2_with (go_at_call 22; refine (digit_q k hlt _).mono ?_; rintro e w' ⟨rfl, rfl⟩)
        go_ret
        exact ⟨by rw [HF.out]; rfl, rfl⟩
      · have hd : (((hexD k).toNat : Int) == (c.toNat : Int)) = false := by
          cases hb : (((hexD k).toNat : Int) == (c.toNat : Int)) with
          | false => rfl
          | true =>
            have h2 : (hexD k).toNat = c.toNat := by have h3 := beq_iff_eq.1 hb; omega
            exact absurd (by rw [← h2]; exact hexV_hexD k hlt) he
        have HH1 : Hid (∀ q, q < k + 1 → hexV c.toNat ≠ some q) := Lib.hid (fun q hq => by
          rcases Nat.lt_or_ge q k with h | h
          · exact HH.out q h
          · obtain rfl : q = k := by omega
            exact he)
        clear he HH
        go_wp2_with (go_at_call 22; refine (digit_q k hlt _).mono ?_; rintro e w' ⟨rfl, rfl⟩)
        go_round
        case rel => exact ⟨k + 1, by omega, by go_num, HH1⟩
        case measure => simp [intOf]; omega
    · have hf : fromH c.toNat = -1 := by
        unfold fromH
        cases h : hexV c.toNat with
        | none => rfl
        | some v => exact absurd h (HH.out v (by have := (hexV_some h).1; omega))
      have HF := Lib.hid hf
      clear hf
      go_wp2
      go_ret
      exact ⟨by rw [HF.out]; rfl, rfl⟩
theorem hv_dig (r : Int) (w : World) (h0 : 48 ≤ r) (h1 : r ≤ 57) :
    Calls Try.prog 25 #[.int .i32 r] w fun e w' => e = .returned (.tuple #[.int .u8 (r - 48), .bool true]) ∧ w = w' := by
  have g0 : decide ((48 : Int) ≤ r) = true := by simpa using h0
  have g1 : decide (r ≤ (57 : Int)) = true := by simpa using h1
  go_enter Try.func25, Try.ntmps25
  go_wp2
  go_ret2
  exact ⟨rfl, rfl⟩
theorem hv_let (r : Int) (w : World) (h0 : 97 ≤ r) (h1 : r ≤ 102) :
    Calls Try.prog 25 #[.int .i32 r] w fun e w' => e = .returned (.tuple #[.int .u8 (r - 97 + 10), .bool true]) ∧ w = w' := by
  have g0 : decide (r ≤ (57 : Int)) = false := by simp; omega
  have g1 : decide (r ≤ (102 : Int)) = true := by simpa using h1
  have g2 : decide ((97 : Int) ≤ r) = true := by simpa using h0
  have g3 : decide ((48 : Int) ≤ r) = true := by simp; omega
  go_enter Try.func25, Try.ntmps25
  go_wp2
  go_ret2
  exact ⟨rfl, rfl⟩
theorem hv_no (r : Int) (w : World) (h : r < 48 ∨ (57 < r ∧ r < 97) ∨ 102 < r) :
    Calls Try.prog 25 #[.int .i32 r] w fun e w' => e = .returned (.tuple #[.int .u8 0, .bool false]) ∧ w = w' := by
  rcases h with h | ⟨h, h'⟩ | h
  · go_enter Try.func25, Try.ntmps25
    go_wp2
    go_ret2
    exact ⟨rfl, rfl⟩
  · have g3 : (48 : Int) ≤ r := by omega
    have g0 : decide (r ≤ (57 : Int)) = false := by simp; omega
    go_enter Try.func25, Try.ntmps25
    go_wp2
    go_ret2
    exact ⟨rfl, rfl⟩
  · have g3 : (97 : Int) ≤ r := by omega
    have g0 : decide (r ≤ (57 : Int)) = false := by simp; omega
    have g4 : decide (r ≤ (102 : Int)) = false := by simp; omega
    go_enter Try.func25, Try.ntmps25
    go_wp2
    go_ret2
    exact ⟨rfl, rfl⟩
theorem fromH_none {c : Nat} (h : hexV c = none) : fromH c = -1 := by unfold fromH; rw [h]
theorem fromH_some {c v : Nat} (h : hexV c = some v) : fromH c = v := by unfold fromH; rw [h]
theorem from_none (c : UInt8) (h : hexV c.toNat = none) (w : World) :
    Calls Try.prog 24 #[.int .u8 (c.toNat : Int)] w fun e w' => e = .returned (.int .i64 (-1)) ∧ w = w' :=
  (fromHex_any c w).mono fun _ _ ⟨he, hw⟩ => ⟨by rw [he, fromH_none h], hw⟩
theorem from_some (c : UInt8) (v : Nat) (h : hexV c.toNat = some v) (w : World) :
    Calls Try.prog 24 #[.int .u8 (c.toNat : Int)] w fun e w' => e = .returned (.int .i64 v) ∧ w = w' :=
  (fromHex_any c w).mono fun _ _ ⟨he, hw⟩ => ⟨by rw [he, fromH_some h], hw⟩
set_option maxHeartbeats 1000000 in
set_option maxRecDepth 1000000 in
theorem sdech_odd (s : ByteArray) (w : World) (hs : s.size ≤ 1048576) (ho : s.size % 2 = 1) :
    Calls Try.prog 19 #[.string s] w (PostHex s.data.toList w.heap.size w) := by
  have hn : ¬ IsHex s.data.toList := fun h => by have := h.1; rw [len_size] at this; omega
  have HN := Lib.hid hn
  have h1 : ((s.size : Int) % 2 == 1) = true := by simp; omega
  clear hn ho
  go_enter Try.func19, Try.ntmps19
  go_wp2
  go_ret2
  exact ⟨(Below.refl _ _).alloc (Nat.le_refl _) _, Or.inr ⟨HN.out, rfl⟩⟩
set_option maxHeartbeats 1000000 in
set_option maxRecDepth 1000000 in
theorem sdech_even (s : ByteArray) (w : World) (hs : s.size ≤ 1048576) (ho : s.size % 2 = 0) :
    Calls Try.prog 19 #[.string s] w (PostHex s.data.toList w.heap.size w) := by
  obtain ⟨i0, hi, hz0, hz1, hz2⟩ := info_parts byteInfo
  have h1 : ((s.size : Int) % 2 == 1) = false := by simp; omega
  have HO := Lib.hid ho
  clear ho
  go_enter Try.func19, Try.ntmps19
  go_wp2
  go_loopw [4, 5] (fun v i wr => ∃ k : Nat, k ≤ s.size ∧ Hid (k % 2 = 0) ∧ i = .int .i64 k ∧ wr.ownsRow w.heap.size 5 1 v (decL s.data.toList (k / 2)).length ((decL s.data.toList (k / 2)).map byteV) ∧ Below w.heap.size w wr ∧ Hid (∀ q, q < k → hexV (s.data.toList.getD q 0).toNat ≠ none)) (fun _ i _ => s.size - (intOf i).toNat)
  case atStart => exact ⟨0, Nat.zero_le _, Lib.hid rfl, rfl, World.ownsRow_lit _ _ 0 (Nat.le_refl _) (by decide) rfl, (Below.refl _ _).alloc (Nat.le_refl _) _, Lib.hid (fun q h => by omega)⟩
  case round =>
    obtain ⟨k, hk, HK, rfl, hown, hbel, HH⟩ := hrel
    by_cases hlt : k < s.size
    · have hlt1 : k + 1 < s.size := by have := HK.out; have := HO.out; omega
      cases ha : hexV s[k].toNat with
      | none =>
        have F1 := Lib.hid (from_none s[k] ha)
        have HN := Lib.hid (not_hex_at s k hlt ha)
        have F2 := Lib.hid (fromHex_any s[k + 1])
        clear ha
        go_wp2_with (first | ((with_reducible refine (F1.out _).mono ?_); rintro e w' ⟨rfl, rfl⟩) | ((with_reducible refine (F2.out _).mono ?_); rintro e w' ⟨rfl, rfl⟩))
        go_ret2
        exact ⟨hbel, Or.inr ⟨HN.out, rfl⟩⟩
      | some a =>
        have ha16 := (hexV_some ha).1
        have F1 := Lib.hid (from_some s[k] a ha)
        cases hb : hexV s[k + 1].toNat with
        | none =>
          have F2 := Lib.hid (from_none s[k + 1] hb)
          have HN := Lib.hid (not_hex_at s (k + 1) hlt1 hb)
          clear ha hb
          go_wp2_with (first | ((with_reducible refine (F1.out _).mono ?_); rintro e w' ⟨rfl, rfl⟩) | ((with_reducible refine (F2.out _).mono ?_); rintro e w' ⟨rfl, rfl⟩))
          go_ret2
          exact ⟨hbel, Or.inr ⟨HN.out, rfl⟩⟩
        | some b =>
          have hb16 := (hexV_some hb).1
          have F2 := Lib.hid (from_some s[k + 1] b hb)
          have HA := Lib.hid ha
          have HB := Lib.hid hb
          clear ha hb
          have hlen := decL_len s.data.toList (k / 2)
          have hle : (decL s.data.toList (k / 2)).length ≤ 1048576 := by omega
          clear hlen
          go_wp2_with (first | ((with_reducible refine (F1.out _).mono ?_); rintro e w' ⟨rfl, rfl⟩) | ((with_reducible refine (F2.out _).mono ?_); rintro e w' ⟨rfl, rfl⟩) | (at_builtin; refine wpList_append_own _ rfl _ _ 36 rfl w.heap.size 5 i0 (.int .u8 0) 1 1 Try.underlying36 hi hz0 hz1 hz2 rfl (by decide) _ _ _ rfl (hown.alloc _) ⟨wr.heap.size, 0, none⟩ 1 1 [.int .u8 (16 * (a : Int) + b)] rfl rfl ?c1 ?c2 ?c3 ?c4 ?c5 ?_))
          case c1 =>
            intro q u hq
            match q, hq with
            | 0, hq => simp at hq; subst hq; simp [Addr.add]
          case c2 => intro u hu; simp at hu; subst hu; rfl
          case c3 => unfold maxLen; omega
          case c4 => omega
          case c5 => have := hbel.size; simp; omega
          intro v' w1 hown' hgrow _
          have hda : nib s.data.toList k = a := nib_of _ _ _ (by rw [getD_at s k hlt]; exact HA.out)
          have hdb : nib s.data.toList (k + 1) = b := nib_of _ _ _ (by rw [getD_at s (k + 1) hlt1]; exact HB.out)
          have hown2 : w1.ownsRow w.heap.size 5 1 v' (decL s.data.toList ((k + 2) / 2)).length ((decL s.data.toList ((k + 2) / 2)).map byteV) := by
            rw [show (k + 2) / 2 = k / 2 + 1 by omega, decL_succ, show 2 * (k / 2) = k by have := HK.out; omega, hda, hdb]
            have hbv : byteV (UInt8.ofNat (16 * a + b)) = .int .u8 (16 * (a : Int) + b) := by
              unfold byteV; rw [UInt8.toNat_ofNat']; congr 1; omega
            rw [List.length_append, List.map_append]
            simp only [List.map_cons, List.map_nil, hbv, List.length_cons, List.length_nil, Nat.zero_add]
            exact hown'
          have hbel1 : Below w.heap.size w w1 := (hbel.alloc (by have := hbel.size; omega) _).grown hgrow (by have := hbel.size; simp; omega) (fun q hq => (hown.lt q hq).1)
          have HK1 : Hid ((k + 2) % 2 = 0) := Lib.hid (by have := HK.out; omega)
          have HH1 : Hid (∀ q, q < k + 2 → hexV (s.data.toList.getD q 0).toNat ≠ none) := Lib.hid (fun q hq => by
            rcases Nat.lt_or_ge q k with h | h
            · exact HH.out q h
            · by_cases e : q = k
              · rw [e, getD_at s k hlt, HA.out]; simp
              · rw [show q = k + 1 by omega, getD_at s (k + 1) hlt1, HB.out]; simp)
          clear hown' hgrow hown hda hdb HK HH
          go_wp2
          go_roundw
          case rel => exact ⟨k + 2, by omega, HK1, by go_num, hown2, hbel1, HH1⟩
          case measure => simp [intOf]; omega
    · obtain rfl : k = s.size := by omega
      have HHX := Lib.hid (show IsHex s.data.toList from ⟨by rw [len_size]; exact HK.out, fun i hi => HH.out i (by rw [len_size] at hi; exact hi)⟩)
      rw [← len_size s] at hown
      have hconv := conv_own hown
      clear hown
      go_wp2
      go_ret2
      exact ⟨hbel, Or.inl ⟨HHX.out, rfl⟩⟩
end Go.Proofs.Ytlbijhfjlgafeaa
