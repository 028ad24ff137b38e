/- The law's own walk: FnIntegerEncodings answers true at every code. -/
import Derived.Test.YtlbijhfjlgafeaaDoorIntPlain
import Derived.Test.YtlbijhfjlgafeaaDoorDraw3
import Derived.Deep.DeepCutAuto
namespace Go.Proofs.YtlbijhfjlgafeaaDoor
open Go.RowKit
/-- What a slice of bytes that came in is: nil, or a row of cells. -/
def IsRow (k : IntKind) (w : World) (a : Option Addr) (len cap : Nat) (zs : List Int) : Prop :=
  (a = none ∧ len = 0 ∧ cap = 0 ∧ zs = []) ∨
  ∃ x, a = some x ∧ len ≤ cap ∧ cap ≤ maxLen ∧ zs.length = cap ∧ (∀ i, i < zs.length → w.cell? (x.add i) = some (.int k (zs.getD i 0))) ∧ ∀ n ∈ zs, (Lit.int k n).wf = true
theorem code_of_row {w : World} {a : Option Addr} {len cap : Nat} {zs : List Int} (h : IsRow .u8 w a len cap zs) : CodeIn w a len := by
  rcases h with ⟨_, h0, _⟩ | ⟨x, rfl, hl, hm, hz, hcell, hwz⟩
  · exact Or.inl h0
  · by_cases h0 : len = 0
    · exact Or.inl h0
    · obtain ⟨b, off, spot⟩ := x
      have hc0 := hcell 0 (by omega)
      have hspot : spot = none := by simpa [Addr.add] using World.cell?_spot hc0
      subst hspot
      have hadd : ∀ i, (⟨b, off, none⟩ : Addr).add i = ⟨b, off + i, none⟩ := fun i => by simp [Addr.add]
      refine Or.inr ⟨b, off, rfl, ?_, fun i hi => ?_⟩
      · have := World.block_lt_of_cell? w _ hc0
        simpa [Addr.add] using this
      · have hw := hwz (zs.getD i 0) (by
          have hi2 : i < zs.length := by omega
          simp only [List.getD, List.getElem?_eq_getElem hi2, Option.getD_some]
          exact List.getElem_mem _)
        have hb : 0 ≤ zs.getD i 0 ∧ zs.getD i 0 ≤ 255 := by simpa [Lit.wf, IntKind.min, IntKind.max, IntKind.bits, IntKind.signed] using hw
        refine ⟨(zs.getD i 0).toNat, by omega, ?_⟩
        rw [← hadd, hcell i (by omega), show (((zs.getD i 0).toNat : Nat) : Int) = zs.getD i 0 by omega]
theorem big_no (w : World) (a : Option Addr) (len cap : Nat) (h : len ≤ 1048576) :
    Calls Tryd.prog 6 #[.slice a len cap] w fun e w' => e = .returned (.bool false) ∧ w = w' := by
  have g : decide ((1048576 : Int) < (len : Int)) = false := by simp; omega
  go_enter Tryd.func6, Tryd.ntmps6
  go_wp2
  go_ret
  exact ⟨rfl, rfl⟩
theorem big_yes (w : World) (a : Option Addr) (len cap : Nat) (h : 1048576 < len) :
    Calls Tryd.prog 6 #[.slice a len cap] w fun e w' => e = .returned (.bool true) ∧ w = w' := by
  have g : decide ((1048576 : Int) < (len : Int)) = true := by simp; omega
  go_enter Tryd.func6, Tryd.ntmps6
  go_wp2
  go_ret
  exact ⟨rfl, rfl⟩
/-- The varint of n, or nothing. -/
def encS (n : Int) : List UInt8 := if 0 ≤ n ∧ n ≤ 562949953421311 then vint n.toNat else []
theorem encS_len (n : Int) : (encS n).length ≤ 7 := by
  unfold encS; split
  · exact vint_len 7 _ (by omega) (by have : (128 : Nat) ^ 7 = 562949953421312 := by decide
                                      omega)
  · simp
theorem encv_any (n : Int) (w : World) :
    Calls Tryd.prog 9 #[.int .i64 n] w fun e w' => e = .returned (strV (encS n)) ∧ Below w.heap.size w w' := by
  by_cases h : 0 ≤ n ∧ n ≤ 562949953421311
  · obtain ⟨m, rfl⟩ : ∃ m : Nat, n = m := ⟨n.toNat, by omega⟩
    have e : encS (m : Int) = vint m := by unfold encS; rw [if_pos h]; rfl
    rw [e]; exact ienc_any m w (by omega)
  · have e : encS n = [] := by unfold encS; rw [if_neg h]
    rw [e]
    exact (ienc_no n w (by omega)).mono fun _ _ ⟨he, hw⟩ => ⟨he, by rw [← hw]; exact Below.refl _ _⟩
/-- The fixed form of n in m bytes, or nothing. -/
def encF (n m : Int) : List UInt8 := if 0 ≤ n ∧ 1 ≤ m ∧ m ≤ 7 ∧ sh n.toNat m.toNat = 0 then bigB n.toNat m.toNat else []
theorem encF_len (n m : Int) : (encF n m).length ≤ 7 := by
  unfold encF; split
  · rw [bigB_len]; omega
  · simp
theorem encf_any (n m : Int) (w : World) (hn : n ≤ 9223372036854775807) :
    Calls Tryd.prog 12 #[.int .i64 n, .int .i64 m] w fun e w' => e = .returned (strV (encF n m)) ∧ Below w.heap.size w w' := by
  by_cases h : 0 ≤ n ∧ 1 ≤ m ∧ m ≤ 7
  · obtain ⟨N, rfl⟩ : ∃ N : Nat, n = N := ⟨n.toNat, by omega⟩
    obtain ⟨M, rfl⟩ : ∃ M : Nat, m = M := ⟨m.toNat, by omega⟩
    have F := iencf_any N M w (by omega) (by omega) (by omega)
    have e : encF (N : Int) (M : Int) = if 0 < sh N M then [] else bigB N M := by
      unfold encF
      by_cases hs : sh N M = 0
      · rw [if_pos ⟨h.1, h.2.1, h.2.2, hs⟩, if_neg (by omega)]; rfl
      · rw [if_neg (fun hh => hs hh.2.2.2), if_pos (by omega)]
    rw [e]; exact F
  · have e : encF n m = [] := by unfold encF; rw [if_neg (fun hh => h ⟨hh.1, hh.2.1, hh.2.2.1⟩)]
    rw [e]
    exact (iencf_no n m w (by omega)).mono fun _ _ ⟨he, hw⟩ => ⟨he, by rw [← hw]; exact Below.refl _ _⟩
theorem sencF_any (n m : Int) (w : World) (hn : n ≤ 9223372036854775807) :
    Calls Tryd.prog 14 #[.int .i64 n, .int .i64 m] w fun e w' => e = .returned (strV (encF n m)) ∧ Below w.heap.size w w' := by
  by_cases h : 0 ≤ n ∧ 1 ≤ m ∧ m ≤ 7
  · obtain ⟨N, rfl⟩ : ∃ N : Nat, n = N := ⟨n.toNat, by omega⟩
    obtain ⟨M, rfl⟩ : ∃ M : Nat, m = M := ⟨m.toNat, by omega⟩
    have F := sencf_any N M w (by omega) (by omega) (by omega)
    have e : encF (N : Int) (M : Int) = if 0 < sh N M then [] else bigB N M := by
      unfold encF
      by_cases hs : sh N M = 0
      · rw [if_pos ⟨h.1, h.2.1, h.2.2, hs⟩, if_neg (by omega)]; rfl
      · rw [if_neg (fun hh => hs hh.2.2.2), if_pos (by omega)]
    rw [e]; exact F
  · have e : encF n m = [] := by unfold encF; rw [if_neg (fun hh => h ⟨hh.1, hh.2.1, hh.2.2.1⟩)]
    rw [e]
    exact (sencf_no n m w (by omega)).mono fun _ _ ⟨he, hw⟩ => ⟨he, by rw [← hw]; exact Below.refl _ _⟩
/-- What the fixed decoder answers on a text that begins with the fixed form. -/
theorem decf_any (n m : Int) (t : List UInt8) (w : World) (ht : t.length ≤ 40) :
    Calls Tryd.prog 13 #[.string (bs (encF n m ++ t)), .int .i64 m] w fun e w' => ∃ (y : Int) (is : Bool), e = .returned (.tuple #[.int .i64 y, .bool is]) ∧ (encF n m ≠ [] → is = true ∧ y = n) ∧ w = w' := by
  have hs : (bs (encF n m ++ t)).size ≤ maxLen := by
    rw [bs_size]; have := encF_len n m; simp [maxLen]; omega
  by_cases h : m < 1 ∨ 7 < m ∨ ((bs (encF n m ++ t)).size : Int) < m
  · refine (idec_no _ m w h).mono fun e w' ⟨he, hw⟩ => ⟨0, false, he, fun hne => ?_, hw⟩
    exfalso
    by_cases hc : 0 ≤ n ∧ 1 ≤ m ∧ m ≤ 7 ∧ sh n.toNat m.toNat = 0
    · have hl : (encF n m).length = m.toNat := by unfold encF; rw [if_pos hc, bigB_len]
      rw [bs_size, List.length_append] at h
      omega
    · exact hne (by unfold encF; rw [if_neg hc])
  · obtain ⟨M, rfl⟩ : ∃ M : Nat, m = M := ⟨m.toNat, by omega⟩
    refine (idec_yes _ M w hs (by omega) (by omega) (by omega)).mono fun e w' ⟨he, hw⟩ => ⟨_, true, he, fun hne => ⟨rfl, ?_⟩, hw⟩
    by_cases hc : 0 ≤ n ∧ 1 ≤ (M : Int) ∧ (M : Int) ≤ 7 ∧ sh n.toNat ((M : Int)).toNat = 0
    · have e1 : encF n M = bigB n.toNat M := by unfold encF; rw [if_pos hc]; rfl
      rw [e1, take_bigB, big_back n.toNat M hc.2.2.2]; omega
    · exact absurd (by unfold encF; rw [if_neg hc]) hne
set_option maxHeartbeats 4000000 in
set_option maxRecDepth 1000000 in
theorem int_walk (w : World) (a : Option Addr) (len cap : Nat) (zs : List Int) (hr : IsRow .u8 w a len cap zs) (ht : TabOn w.heap.size w) :
    Calls Tryd.prog 3 #[.slice a len cap] w fun e w' => e = .returned (.bool true) ∧ Below w.heap.size w w' := by
  by_cases hbig : 1048576 < len
  · have F := Lib.hid (big_yes w a len cap hbig)
    clear hr ht
    go_enter Tryd.func3, Tryd.ntmps3
    go_wp2_with (go_at_call 6; refine F.out.mono ?_; rintro e w1 ⟨rfl, rfl⟩)
    go_ret
    exact ⟨rfl, Below.refl _ _⟩
  · have hlen : len ≤ 1048576 := by omega
    have HT := Lib.hid ht
    have HCODE := Lib.hid (code_of_row hr)
    have F := Lib.hid (big_no w a len cap hlen)
    have F1 := Lib.hid (dvar_any w a len cap hlen HCODE.out)
    clear hbig ht hr
    go_enter Tryd.func3, Tryd.ntmps3
    go_wp2_with (go_at_call 6; refine F.out.mono ?_; rintro e w1 ⟨rfl, rfl⟩)
    refine F1.out.mono ?_
    rintro e w1 ⟨n, rfl, hn0, hn1, hb⟩
    have HB1 := Lib.hid hb
    have F2 := Lib.hid (dhex_any w1 a len cap hlen (HCODE.out.below hb))
    clear hb F F1
    go_wp2_with fail
    refine F2.out.mono ?_
    rintro e w2 ⟨t, rfl, ht40, hb⟩
    have HB2 := Lib.hid (HB1.out.trans (hb.mono HB1.out.size))
    have F3 := Lib.hid (encv_any n w2)
    clear hb F2 HB1
    go_wp2_with fail
    refine F3.out.mono ?_
    rintro e w3 ⟨rfl, hb⟩
    have HB3 := Lib.hid (HB2.out.trans (hb.mono HB2.out.size))
    have hs1 : (bs (encS n)).size ≤ 7 := by rw [bs_size]; exact encS_len n
    have hs2 : (bs t).size ≤ 40 := by rw [bs_size]; exact ht40
    have F4 : Hid (Calls Tryd.prog 10 #[.string (bs (encS n) ++ bs t)] w3 (TwoInts (encS n ++ t) w3.heap.size w3)) := Lib.hid (by
      have h := idecv_any (bs (encS n ++ t)) w3 (by rw [bs_size, List.length_append]; have := encS_len n; simp [maxLen]; omega)
      rw [bs_list, ← bs_append] at h
      exact h)
    clear hb F3 HB2
    go_wp2_with fail
    refine F4.out.mono ?_
    rintro e w4 ⟨x, k, rfl, hres, hb⟩
    have HRES := Lib.hid hres
    have HB4 := Lib.hid (HB3.out.trans (hb.mono HB3.out.size))
    clear hres hb F4 HB3
    go_upto_region 7 with fail
    go_cut [57] (fun s57 wx => s57 = .bool false ∧ wx = w4)
    case first =>
      by_cases hin : 0 ≤ n ∧ n ≤ 562949953421311
      · obtain ⟨h0, h1⟩ := hin
        have es : encS n = vint n.toNat := by unfold encS; rw [if_pos ⟨h0, h1⟩]
        have hr2 := HRES.out
        rw [es] at hr2
        obtain ⟨hx, hk⟩ := hr2.unique (res_vint n.toNat t (by omega))
        have g1 : ((x : Int) != n) = false := by rw [hx]; simp; omega
        have g2 : ((k : Int) != ((bs (encS n)).size : Int)) = false := by rw [hk, bs_size, es]; simp
        have g3 : (bs (encS n)).toList.isEmpty = false := by
          have e1 : (bs (encS n)).toList = encS n := (Lib.toList_data _).trans (bs_list _)
          rw [e1, es]
          have := vint_pos n.toNat
          cases hv : vint n.toNat with
          | nil => rw [hv] at this; simp at this
          | cons _ _ => rfl
        clear hx hk hr2 es
        go_wp2_with fail
        go_meet
        exact ⟨rfl, rfl⟩
      · have g3 : (bs (encS n)).toList.isEmpty = true := by
          have e1 : (bs (encS n)).toList = encS n := (Lib.toList_data _).trans (bs_list _)
          rw [e1]; unfold encS; rw [if_neg hin]; rfl
        by_cases h0 : n < 0
        · clear hin
          go_wp2_with fail
          go_meet
          exact ⟨rfl, rfl⟩
        · have h0' : 0 ≤ n := by omega
          have h1 : 562949953421311 < n := by omega
          clear hin h0
          go_wp2_with fail
          go_meet
          exact ⟨by simp; omega, rfl⟩
    case rest =>
      obtain ⟨rfl, rfl⟩ := hcut
      have F5 := Lib.hid (dfix_any _ a len cap hlen (HCODE.out.below HB4.out))
      clear hs1
      go_wp2_with fail
      refine F5.out.mono ?_
      rintro e w5 ⟨v, m, rfl, hv0, hv1, hm0, hm8, hb⟩
      have HB5 := Lib.hid (HB4.out.trans (hb.mono HB4.out.size))
      have F6 := Lib.hid (encf_any v m w5 hv1)
      clear hb F5 HB4
      go_wp2_with fail
      refine F6.out.mono ?_
      rintro e w6 ⟨rfl, hb⟩
      have HB6 := Lib.hid (HB5.out.trans (hb.mono HB5.out.size))
      have hs3 : (bs (encF v m)).size ≤ 7 := by rw [bs_size]; exact encF_len v m
      have F7 : Hid (Calls Tryd.prog 13 #[.string (bs (encF v m) ++ bs t), .int .i64 m] w6 fun e w' => ∃ (y : Int) (is : Bool), e = .returned (.tuple #[.int .i64 y, .bool is]) ∧ (encF v m ≠ [] → is = true ∧ y = v) ∧ w6 = w') := Lib.hid (by rw [bs_append]; exact decf_any v m t w6 ht40)
      clear hb F6 HB5
      go_wp2_with fail
      refine F7.out.mono ?_
      rintro e w7 ⟨y, is, rfl, hback, rfl⟩
      have HBACK := Lib.hid hback
      have F8 := Lib.hid (sencF_any v m w6 hv1)
      clear hback F7 hs3
      go_upto_region 12 with fail
      go_cut [99] (fun s99 wx => s99 = .bool false ∧ Hid (Below w.heap.size w wx))
      case first =>
        by_cases hne : encF v m = []
        · have g3 : (bs (encF v m)).toList.isEmpty = true := by
            have e1 : (bs (encF v m)).toList = encF v m := (Lib.toList_data _).trans (bs_list _)
            rw [e1, hne]; rfl
          clear hne
          go_wp2_with fail
          refine F8.out.mono ?_
          rintro e w8 ⟨rfl, hb⟩
          have HB8 := Lib.hid (HB6.out.trans (hb.mono HB6.out.size))
          clear hb
          go_wp2_with fail
          go_meet
          exact ⟨rfl, HB8⟩
        · obtain ⟨rfl, rfl⟩ := HBACK.out hne
          have g3 : (bs (encF y m)).toList.isEmpty = false := by
            have e1 : (bs (encF y m)).toList = encF y m := (Lib.toList_data _).trans (bs_list _)
            rw [e1]
            cases hv : encF y m with
            | nil => exact absurd hv hne
            | cons _ _ => rfl
          have g4 : (((bs (encF y m)).size : Int) != m) = false := by
            rw [bs_size]
            unfold encF at hne ⊢
            by_cases hc : 0 ≤ y ∧ 1 ≤ m ∧ m ≤ 7 ∧ sh y.toNat m.toNat = 0
            · rw [if_pos hc, bigB_len]; simp; omega
            · rw [if_neg hc] at hne; exact absurd rfl hne
          clear hne
          go_wp2_with fail
          refine F8.out.mono ?_
          rintro e w8 ⟨rfl, hb⟩
          have HB8 := Lib.hid (HB6.out.trans (hb.mono HB6.out.size))
          clear hb
          go_wp2_with fail
          go_meet
          exact ⟨rfl, HB8⟩
      case rest =>
        obtain ⟨rfl, HB8⟩ := hcut
        have F9 : Hid (∀ w, Calls Tryd.prog 15 #[.string (bs t)] w fun e w' => e = .returned (strV (hexL t)) ∧ Below w.heap.size w w') := Lib.hid (fun w => by
          have h := iench_any (bs t) w (by omega)
          rw [bs_list] at h
          exact h)
        have hs4 : (bs (hexL t)).size ≤ 80 := by rw [bs_size, hexL_len]; omega
        have F10 : Hid (∀ w, Calls Tryd.prog 16 #[.string (bs (hexL t))] w fun e w' => e = .returned (.tuple #[strV t, .bool true]) ∧ Below w.heap.size w w') := Lib.hid (fun w => by
          have h := idech_any (bs (hexL t)) w (by omega)
          rw [bs_list] at h
          exact h.mono fun _ _ hp => hex_back hp)
        obtain ⟨X, hX⟩ : ∃ X, X = bs (Lib.itoa v) := ⟨_, rfl⟩
        have F11 : Hid (∀ w1, Below w.heap.size w w1 → Calls Tryd.prog 17 #[.int .i64 v] w1 fun e w' => e = .returned (.string X) ∧ Below w.heap.size w1 w') := Lib.hid (fun w1 h => by
          rw [hX]; exact ifmt_any v hv0 hv1 w.heap.size w1 h.size (HT.out.on h))
        have F13 : Hid (∀ w1, Calls Tryd.prog 19 #[.int .i64 v] w1 fun e w' => e = .returned (.string X) ∧ Below w1.heap.size w1 w') := Lib.hid (fun w1 => by
          rw [hX]; exact sfmt_any v hv0 hv1 w1)
        have g5 : (((bs (hexL t)).size : Int) == 2 * ((bs t).size : Int)) = true := by rw [bs_size, bs_size, hexL_len]; simp
        by_cases hin : -1000000000 < v ∧ v < 1000000000
        · have F12 : Hid (∀ w1, Below w.heap.size w w1 → Calls Tryd.prog 18 #[.string X] w1 fun e w' => e = .returned (.tuple #[.int .i64 v, .bool true]) ∧ Below w.heap.size w1 w') := Lib.hid (fun w1 h => by
            have ha : accB (Lib.itoa v) = true := by rw [acc_itoa]; simpa using hin
            have hp : pdB (digL (Lib.itoa v)) = true := by rw [acc_iff] at ha; simp at ha; exact ha.1
            have hsz : X.size ≤ maxLen := by rw [hX, bs_size]; have := Lib.itoa_length_le v hv0 hv1; simp [maxLen]; omega
            have F := iparse_yes X w.heap.size w1 h.size (HT.out.on h) hsz (by rw [hX, bs_list]; exact hp)
            rw [show X.data.toList = Lib.itoa v by rw [hX, bs_list], res_itoa, ha] at F
            exact F)
          obtain ⟨i0, i1⟩ := hin
          clear hX F8 HBACK HRES
          go_wp2_with fail
          refine (F9.out _).mono ?_
          rintro e w9 ⟨rfl, hb⟩
          have HB9 := Lib.hid (HB8.out.trans (hb.mono HB8.out.size))
          clear hb
          go_wp2_with fail
          refine (F10.out _).mono ?_
          rintro e w10 ⟨rfl, hb⟩
          have HB10 := Lib.hid (HB9.out.trans (hb.mono HB9.out.size))
          clear hb
          go_wp2_with fail
          refine (F11.out _ HB10.out).mono ?_
          rintro e w11 ⟨rfl, hb⟩
          have HB11 := Lib.hid (HB10.out.trans hb)
          clear hb
          go_wp2_with fail
          refine (F12.out _ HB11.out).mono ?_
          rintro e w12 ⟨rfl, hb⟩
          have HB12 := Lib.hid (HB11.out.trans hb)
          clear hb
          go_wp2_with fail
          refine (F13.out _).mono ?_
          rintro e w13 ⟨rfl, hb⟩
          have HB13 := Lib.hid (HB12.out.trans (hb.mono HB12.out.size))
          clear hb
          go_wp2
          go_ret
          exact ⟨rfl, HB13.out⟩
        · have F12 : Hid (∀ w1, Below w.heap.size w w1 → Calls Tryd.prog 18 #[.string X] w1 fun e w' => e = .returned (.tuple #[.int .i64 0, .bool false]) ∧ Below w.heap.size w1 w') := Lib.hid (fun w1 h => by
            have ha : accB (Lib.itoa v) = false := by rw [acc_itoa]; simpa using hin
            have hsz : X.size ≤ maxLen := by rw [hX, bs_size]; have := Lib.itoa_length_le v hv0 hv1; simp [maxLen]; omega
            have hl : X.data.toList = Lib.itoa v := by rw [hX, bs_list]
            cases hp : pdB (digL X.data.toList) with
            | true =>
              have F := iparse_yes X w.heap.size w1 h.size (HT.out.on h) hsz hp
              rw [hl, res_itoa, ha] at F
              exact F
            | false => exact iparse_no X w.heap.size w1 h.size hsz hp)
          by_cases hlo : v ≤ -1000000000
          · clear hX F8 HBACK HRES hin
            go_wp2_with fail
            refine (F9.out _).mono ?_
            rintro e w9 ⟨rfl, hb⟩
            have HB9 := Lib.hid (HB8.out.trans (hb.mono HB8.out.size))
            clear hb
            go_wp2_with fail
            refine (F10.out _).mono ?_
            rintro e w10 ⟨rfl, hb⟩
            have HB10 := Lib.hid (HB9.out.trans (hb.mono HB9.out.size))
            clear hb
            go_wp2_with fail
            refine (F11.out _ HB10.out).mono ?_
            rintro e w11 ⟨rfl, hb⟩
            have HB11 := Lib.hid (HB10.out.trans hb)
            clear hb
            go_wp2_with fail
            refine (F12.out _ HB11.out).mono ?_
            rintro e w12 ⟨rfl, hb⟩
            have HB12 := Lib.hid (HB11.out.trans hb)
            clear hb
            go_wp2_with fail
            refine (F13.out _).mono ?_
            rintro e w13 ⟨rfl, hb⟩
            have HB13 := Lib.hid (HB12.out.trans (hb.mono HB12.out.size))
            clear hb
            go_wp2
            go_ret
            exact ⟨rfl, HB13.out⟩
          · have hlo' : -1000000000 < v := by omega
            have hhi : 1000000000 ≤ v := by omega
            have g6 : decide (v < 1000000000) = false := by simp; omega
            clear hX F8 HBACK HRES hin hlo
            go_wp2_with fail
            refine (F9.out _).mono ?_
            rintro e w9 ⟨rfl, hb⟩
            have HB9 := Lib.hid (HB8.out.trans (hb.mono HB8.out.size))
            clear hb
            go_wp2_with fail
            refine (F10.out _).mono ?_
            rintro e w10 ⟨rfl, hb⟩
            have HB10 := Lib.hid (HB9.out.trans (hb.mono HB9.out.size))
            clear hb
            go_wp2_with fail
            refine (F11.out _ HB10.out).mono ?_
            rintro e w11 ⟨rfl, hb⟩
            have HB11 := Lib.hid (HB10.out.trans hb)
            clear hb
            go_wp2_with fail
            refine (F12.out _ HB11.out).mono ?_
            rintro e w12 ⟨rfl, hb⟩
            have HB12 := Lib.hid (HB11.out.trans hb)
            clear hb
            go_wp2_with fail
            refine (F13.out _).mono ?_
            rintro e w13 ⟨rfl, hb⟩
            have HB13 := Lib.hid (HB12.out.trans (hb.mono HB12.out.size))
            clear hb
            go_wp2
            go_ret
            exact ⟨rfl, HB13.out⟩
end Go.Proofs.YtlbijhfjlgafeaaDoor
