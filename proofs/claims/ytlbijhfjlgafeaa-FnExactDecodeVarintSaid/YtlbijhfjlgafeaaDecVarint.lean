/- The contracts of spec.DecodeVarint and impl.DecodeVarint: both answer the number and the length of the prefix that is a varint of at most seven bytes. -/
import Derived.Test.YtlbijhfjlgafeaaVarPlain
import Derived.Deep.RegionWith
import Derived.Lib.Strings
namespace Go.Proofs.Ytlbijhfjlgafeaa
open Go.RowKit
theorem val7 (l : List UInt8) (h : l.length ≤ 7) : val l ≤ 562949953421311 := by
  have h1 := val_lt l
  have h2 : 128 ^ l.length ≤ 128 ^ 7 := Nat.pow_le_pow_right (by decide) h
  have h3 : (128 : Nat) ^ 7 = 562949953421312 := by decide
  omega
theorem val_drop (l : List UInt8) (q : Nat) (h : q < l.length) : val (l.drop q) = l[q].toNat % 128 + 128 * val (l.drop (q + 1)) := by
  rw [List.drop_eq_getElem_cons h]; rfl
theorem same_text (s : ByteArray) (k : Nat) (L : List UInt8) (hL : L = s.data.toList.take k) : ((bs (vint (val L))).toList == (s.extract 0 k).toList) = canonL L := by
  have e1 : (bs (vint (val L))).toList = vint (val L) := Lib.toList_data _
  have e2 : (s.extract 0 k).toList = L := by rw [Lib.toList_data, Lib.extract_data, hL]; simp
  rw [e1, e2, Bool.eq_iff_iff, beq_iff_eq]
  exact canon_iff L
def TwoInts (l : List UInt8) (W : Nat) (w : World) (e : Ending) (w' : World) : Prop := ∃ n k : Nat, e = .returned (.tuple #[.int .i64 n, .int .i64 k]) ∧ Res l n k ∧ Below W w w'
set_option maxHeartbeats 1000000 in
set_option maxRecDepth 1000000 in
theorem sdecv_any (s : ByteArray) (w : World) (hs : s.size ≤ maxLen) :
    Calls Try.prog 15 #[.string s] w (TwoInts s.data.toList w.heap.size w) := by
  unfold maxLen at hs
  go_enter Try.func15, Try.ntmps15
  go_wp2
  go_loopw [4, 5, 6] (fun kk _ _ wr => ∃ k : Nat, 1 ≤ k ∧ k ≤ 8 ∧ kk = .int .i64 k ∧ Hid (∀ q, 1 ≤ q → q < k → canonL (s.data.toList.take q) = false) ∧ Below w.heap.size w wr) (fun kk _ _ _ => 8 - (intOf kk).toNat)
  case atStart => exact ⟨1, by omega, by omega, rfl, Lib.hid (fun q h1 h2 => by omega), Below.refl _ _⟩
  case round =>
    obtain ⟨k, hk1, hk8, rfl, HC, hbel⟩ := hrel
    by_cases hlt : k ≤ 7 ∧ k ≤ s.size
    · obtain ⟨h7, hks⟩ := hlt
      have hL : ∃ L, L = s.data.toList.take k ∧ L.length = k ∧ ∀ q (hq : q < k) (hq2 : q < L.length), L[q] = s[q] := ⟨s.data.toList.take k, rfl, by simp; omega, fun q hq _ => by rw [List.getElem_take, Array.getElem_toList]; rfl⟩
      obtain ⟨L, hL, hLl, hLq⟩ := hL
      have HLl := Lib.hid hLl
      have HLq := Lib.hid hLq
      have HL := Lib.hid hL
      clear hL hLl hLq
      go_wp2
      go_loopw [5, 6] (fun n x wq => ∃ i : Int, -1 ≤ i ∧ i < k ∧ x = .int .i64 i ∧ n = .int .i64 (val (L.drop (i + 1).toNat)) ∧ wq = wr) (fun _ x _ => (intOf x + 1).toNat)
      case atStart => exact ⟨(k : Int) - 1, by omega, by omega, rfl, by rw [List.drop_of_length_le (by rw [HLl.out]; omega)]; rfl, rfl⟩
      case round =>
        obtain ⟨i, hi1, hik, rfl, rfl, rfl⟩ := hrel
        by_cases hneg : i < 0
        · obtain rfl : i = -1 := by omega
          have hv7 := val7 L (by rw [HLl.out]; omega)
          have hsame := same_text s k L HL.out
          cases hcan : canonL L with
          | true =>
            rw [hcan] at hsame
            have HCAN := Lib.hid hcan
            clear hcan
            go_wp2
            go_region_with (go_at_call 13; refine (senc_any (val L) _ hv7).mono ?_; rintro e w1 ⟨rfl, hb1⟩)
            all_goals go_wp2
            all_goals go_ret2
            all_goals exact ⟨val L, k, rfl, Or.inr ⟨hk1, h7, by simpa using hks, by rw [← HL.out], by rw [← HL.out]; exact HCAN.out⟩, hbel.drew.trans (hb1.mono (by have := hbel.size; simp; omega))⟩
          | false =>
            rw [hcan] at hsame
            have HCAN := Lib.hid hcan
            clear hcan
            go_wp2
            go_region_with (go_at_call 13; refine (senc_any (val L) _ hv7).mono ?_; rintro e w1 ⟨rfl, hb1⟩)
            all_goals
              have hbel1 : Below w.heap.size w w1 := hbel.drew.trans (hb1.mono (by have := hbel.size; simp; omega))
              have HC1 : Hid (∀ q, 1 ≤ q → q < k + 1 → canonL (s.data.toList.take q) = false) := Lib.hid (fun q h1 h2 => by
                rcases Nat.lt_or_ge q k with h | h
                · exact HC.out q h1 h
                · obtain rfl : q = k := by omega
                  rw [← HL.out]; exact HCAN.out)
              clear hb1 hbel
              go_wp2
              go_roundw
              case rel => exact ⟨k + 1, by omega, by omega, by go_num, HC1, hbel1⟩
              case measure => simp [intOf]; omega
        · obtain ⟨q, rfl⟩ : ∃ q : Nat, i = q := ⟨i.toNat, by omega⟩
          have hqk : q < k := by omega
          have hqs : q < s.size := by omega
          have hv7 := val7 (L.drop (q + 1)) (by rw [List.length_drop, HLl.out]; omega)
          have hc : (s[q].toNat : Int) < 256 := by have := s[q].toNat_lt; omega
          have HS : Hid (val (L.drop q) = s[q].toNat % 128 + 128 * val (L.drop (q + 1))) := Lib.hid (by rw [val_drop L q (by rw [HLl.out]; exact hqk), HLq.out q hqk (by rw [HLl.out]; exact hqk)])
          clear hneg
          go_wp2
          go_roundw
          case rel => exact ⟨(q : Int) - 1, by omega, by omega, rfl, by rw [show ((q : Int) - 1 + 1).toNat = q by omega, HS.out]; go_num, trivial⟩
          case measure => simp [intOf]
    · have hR : Res s.data.toList 0 0 := Or.inl ⟨rfl, rfl, fun q h1 h7 hq => HC.out q h1 (by simp at hq; omega)⟩
      have HR := Lib.hid hR
      clear hR
      by_cases h7 : k ≤ 7
      · have hks : s.size < k := by omega
        clear hlt
        go_wp2
        go_ret2
        exact ⟨0, 0, rfl, HR.out, hbel⟩
      · clear hlt
        have h7' : 7 < k := by omega
        clear h7
        go_wp2
        go_ret2
        exact ⟨0, 0, rfl, HR.out, hbel⟩
end Go.Proofs.Ytlbijhfjlgafeaa
