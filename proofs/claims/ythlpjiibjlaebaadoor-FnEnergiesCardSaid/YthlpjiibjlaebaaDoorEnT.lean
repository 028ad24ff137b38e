/- The program's own count of triples: for each element the sums that are allowed, counted. -/
import Derived.Test.YthlpjiibjlaebaaDoorEnI
import Derived.Test.YthlpjiibjlaebaaDoorMGAM
import Derived.Test.YthlpjiibjlaebaaDoorSetIn
import Derived.Test.YthlpjiibjlaebaaDoorMGAJ
import Derived.Test.YthlpjiibjlaebaaDoorMGAA
import Derived.OwnWalkIn
import Derived.RangeFuncBox
namespace Go.Proofs.YthlpjiibjlaebaaDoor
open Go.RowKit Go.Shelf
attribute [local go_sem] Oper.semAt_some
set_option maxRecDepth 1000000
theorem elInfo : (Tryd.prog.info? 53).map (fun i => (i.zero, i.size, i.bytes)) = some (some (.int .u64 0), 1, 8) := by kernel_rfl
theorem one_cellT {w : World} {B : Nat} {x : Value} {T : TypeId} (h : w.heap[B]? = some (.cells #[x] T (0, 0))) : w.cell? ⟨B, 0, none⟩ = some x := by simp [World.cell?, h]
theorem keeps_belowT {W W' : World} (h : Below W.heap.size W W') : KeepsOthers W W' := ⟨h.size, fun k _ ho _ => (h.block k (Array.getElem?_eq_some_iff.1 ho).1).trans ho⟩
def isDefT : Op → Bool
  | .defer _ => true
  | _ => false
theorem no_deferT {ops : Array Oper} (h : (ops.toList.all fun o => !isDefT o.op) = true) : ∀ (i : Nat) (o : Oper), ops[i]? = some o → ∀ c, o.op ≠ .defer c := fun i o ho c e => by
  have h2 := List.all_eq_true.1 h o (by
    rw [Array.getElem?_eq_some_iff] at ho
    obtain ⟨hi, rfl⟩ := ho
    simp)
  rw [e] at h2
  cases h2
/-- A row of sets, as values. -/
def rowOfE (f : Nat → Nat) (L : List Nat) : List Value := L.map fun x => .int .u64 (f x : Nat)
theorem rowOfE_snoc (f : Nat → Nat) (L : List Nat) (x : Nat) : rowOfE f (L ++ [x]) = rowOfE f L ++ [.int .u64 (f x : Nat)] := by simp [rowOfE]
theorem rowOfE_len (f : Nat → Nat) (L : List Nat) : (rowOfE f L).length = L.length := by simp [rowOfE]
theorem rowE_read {w : World} {B : Nat} {v : Value} {f : Nat → Nat} {L : List Nat} (h : w.ownsRow B 53 1 v L.length (rowOfE f L)) :
    ∃ a cap, v = .slice a L.length cap ∧ ∀ i, i < L.length → ∃ b, a = some ⟨b, 0, none⟩ ∧ w.cell? ⟨b, i, none⟩ = some (.int .u64 (f (L.getD i 0) : Nat)) := by
  have hh := h
  obtain ⟨h1, h2⟩ := h
  rcases h2 with ⟨h2, h3⟩ | ⟨g, cap, cur, rfl, rest⟩
  · have : L.length = 0 := h3
    exact ⟨none, 0, by rw [this]; exact h2, fun i hi => by omega⟩
  · refine ⟨_, cap, rfl, fun i hi => ⟨g, rfl, ?_⟩⟩
    have hg := hh.cellAt i (by omega)
    rw [hg]
    unfold rowOfE
    simp [List.getD, hi]
set_option maxHeartbeats 2000000 in
/-- The sizes of the sets of a row, added up. -/
theorem iTotE (w : World) (B : Nat) (v : Value) (f : Nat → Nat) (L : List Nat) (hf : ∀ x, f x < 16777216) (hm : L.length ≤ 24) (hr : w.ownsRow B 53 1 v L.length (rowOfE f L)) :
    Calls Tryd.prog 89 #[v, .func (.func 80) #[] #[]] w fun e w' => e = .returned (.int .i64 (sumL (fun x => ((bitsN (f x)).length : Int)) L)) ∧ w = w' := by
  obtain ⟨a, cap, rfl, hc⟩ := rowE_read hr
  have HC := Lib.hid hc
  have HF := Lib.hid hf
  obtain ⟨n, hn⟩ : ∃ n, L.length = n := ⟨_, rfl⟩
  have HAB : Hid (∀ k, k ≤ n → 0 ≤ sumL (fun x => ((bitsN (f x)).length : Int)) (L.take k) ∧ sumL (fun x => ((bitsN (f x)).length : Int)) (L.take k) ≤ 576) := Lib.hid (fun k hk => by
    have h1 := sumL_bnd (f := fun x => ((bitsN (f x)).length : Int)) (a := 0) (b := 24) (L := L.take k) (fun x _ => by have := bits_le (f x); show 0 ≤ ((bitsN (f x)).length : Int) ∧ ((bitsN (f x)).length : Int) ≤ 24; omega)
    have h2 : (L.take k).length ≤ 24 := by rw [List.length_take]; omega
    have h3 : ((L.take k).length : Int) * 24 ≤ 24 * 24 := Int.mul_le_mul_of_nonneg_right (by omega) (by decide)
    omega)
  have HSTEP : Hid (∀ k, k < n → sumL (fun x => ((bitsN (f x)).length : Int)) (L.take (k + 1)) = sumL (fun x => ((bitsN (f x)).length : Int)) (L.take k) + ((bitsN (f (L.getD k 0))).length : Int)) := Lib.hid (fun k hk => by
    rw [List.take_add_one, List.getElem?_eq_getElem (by omega), sumL_app]
    simp [sumL, List.getD, List.getElem?_eq_getElem (show k < L.length by omega)])
  have HZ : Hid (sumL (fun x => ((bitsN (f x)).length : Int)) (L.take 0) = 0) := Lib.hid rfl
  have HE : Hid (sumL (fun x => ((bitsN (f x)).length : Int)) L = sumL (fun x => ((bitsN (f x)).length : Int)) (L.take n)) := Lib.hid (by rw [← hn, List.take_length])
  rw [HE.out]
  obtain ⟨A, HA⟩ : ∃ A : Nat → Int, Hid ((fun k => sumL (fun x => ((bitsN (f x)).length : Int)) (L.take k)) = A) := ⟨_, Lib.hid rfl⟩
  have HAV : ∀ k, sumL (fun x => ((bitsN (f x)).length : Int)) (L.take k) = A k := fun k => by rw [← HA.out]
  simp only [HAV] at HAB HSTEP HZ
  rw [HAV]
  rw [hn] at HC hm
  rw [hn]
  clear hc hf hr hn HAV
  go_enter Tryd.func89, Tryd.ntmps89
  go_wp2
  go_loopw [5, 10] (fun o i wr => ∃ k : Nat, k ≤ n ∧ i = .int .i64 k ∧ o = .int .i64 (A k) ∧ w = wr) (fun _ i _ => n - (intOf i).toNat)
  case atStart => exact ⟨0, Nat.zero_le _, rfl, by rw [HZ.out], rfl⟩
  case round =>
    obtain ⟨k, hk, rfl, rfl, rfl⟩ := hrel
    obtain ⟨y1, y2⟩ := HAB.out k hk
    by_cases hlt : k < n
    · obtain ⟨b, rfl, r1⟩ := HC.out k hlt
      have HST := Lib.hid (HSTEP.out k hlt)
      have HCN := Lib.hid (iCnt w (f (L.getD k 0)) (HF.out _))
      have hbl := bits_le (f (L.getD k 0))
      obtain ⟨x, HX⟩ : ∃ x, Hid (f (L.getD k 0) = x) := ⟨_, Lib.hid rfl⟩
      rw [HX.out] at r1 HST HCN hbl
      obtain ⟨c, HCC⟩ : ∃ c, Hid ((bitsN x).length = c) := ⟨_, Lib.hid rfl⟩
      rw [HCC.out] at HCN HST hbl
      obtain ⟨ak, HAK⟩ : ∃ ak, Hid (A k = ak) := ⟨_, Lib.hid rfl⟩
      rw [HAK.out] at y1 y2 HST
      rw [HAK.out]
      go_wp2_with (go_at_call 80; refine (HCN.out).mono ?_; rintro e w5 ⟨rfl, rfl⟩)
      go_roundw
      case rel => exact ⟨k + 1, by omega, by go_num, by rw [HST.out], by first | trivial | rfl⟩
      case measure => simp [intOf]; omega
    · obtain rfl : k = n := by omega
      go_wp2
      go_ret
      exact ⟨rfl, rfl⟩
set_option maxHeartbeats 8000000 in
theorem iTri (w : World) (a : Option Addr) (l : List Int) (n cap : Nat) (s t u : Int) (hn : n = l.length) (hm : n ≤ 9223372036854775807) (hi : Ints w a l) (B : Nat) (hB0 : B ≤ w.heap.size) (ht : TabZ B w) :
    Calls Tryd.prog 38 #[.agg #[.slice a n cap], .int .i64 s, .int .i64 t, .int .i64 u] w fun e w' => e = .returned (.int .i64 (triE l s t u)) ∧ Below w.heap.size w w' := by
  have HTZ := Lib.hid ht
  clear ht
  have HI := Lib.hid (ints_alloc hi (.cells #[.slice a n cap] 26))
  have HN := Lib.hid hn
  have C1 := newC w (.slice a n cap) 26 (n := w.heap.size) rfl
  have HB := Lib.hid (Joins.below_alloc1 w (.cells #[.slice a n cap] 26))
  have T0 := Lib.hid (Below.refl (w.alloc (.cells #[.slice a n cap] 26)).heap.size (w.alloc (.cells #[.slice a n cap] 26)))
  clear hi hn
  cases hs : two l s t with
  | false =>
    have HS := Lib.hid hs
    rw [show triE l s t u = -1 by unfold triE triB; rw [if_neg (by simp [hs])]]
    cases hu : isS l u with
    | false =>
      have HU := Lib.hid hu
      clear hs hu
      go_enter Tryd.func38, Tryd.ntmps38
      go_wp2_with (first
        | (go_at_call 72; refine (iSetIn_no _ _ _ _ _ _ HN.out hm (HI.out.below rfl T2.out) HU.out).mono ?_; rintro e w3 ⟨rfl, hb3⟩; have T4 := Lib.hid ((T2.out.trans (hb3.mono T2.out.size)).trans ((Joins.below_alloc2 w3 (.cells #[.int .i64 0, .int .i64 0, .int .i64 0] 51) (.cells #[.int .u64 0] 53)).mono (Nat.le_trans T2.out.size hb3.size))))
        | (go_at_call 60; refine (iSetsIn_no _ _ _ _ _ _ _ HN.out hm (HI.out.below rfl T0.out) HS.out).mono ?_; rintro e w1 ⟨p, q, r, x, y, rfl, hb1⟩; have T2 := Lib.hid ((T0.out.trans (hb1.mono T0.out.size)).trans ((Joins.below_alloc2 w1 (.cells #[.int .i64 p, .int .i64 q, .int .i64 r] 51) (.cells #[.int .u64 y] 53)).mono (Nat.le_trans T0.out.size hb1.size))); have c2 := keepC T2.out (by simp) C1))
      go_ret
      exact ⟨rfl, HB.out.trans (T4.out.mono (by simp))⟩
    | true =>
      have HU := Lib.hid hu
      obtain ⟨hg, c, rfl, _, _⟩ := isS_true hu
      clear hs hu hg
      go_enter Tryd.func38, Tryd.ntmps38
      go_wp2_with (first
        | (go_at_call 72; refine (iSetIn_yes _ _ _ _ _ _ HN.out hm (HI.out.below rfl T2.out) HU.out).mono ?_; rintro e w3 ⟨rfl, hb3⟩; have T4 := Lib.hid ((T2.out.trans (hb3.mono T2.out.size)).trans ((Joins.below_alloc2 w3 (.cells #[.int .i64 (l.getD 0 1), .int .i64 (l.getD 1 1), .int .i64 (l.getD 2 1)] 51) (.cells #[.int .u64 c] 53)).mono (Nat.le_trans T2.out.size hb3.size))))
        | (go_at_call 60; refine (iSetsIn_no _ _ _ _ _ _ _ HN.out hm (HI.out.below rfl T0.out) HS.out).mono ?_; rintro e w1 ⟨p, q, r, x, y, rfl, hb1⟩; have T2 := Lib.hid ((T0.out.trans (hb1.mono T0.out.size)).trans ((Joins.below_alloc2 w1 (.cells #[.int .i64 p, .int .i64 q, .int .i64 r] 51) (.cells #[.int .u64 y] 53)).mono (Nat.le_trans T0.out.size hb1.size))); have c2 := keepC T2.out (by simp) C1))
      go_ret
      exact ⟨rfl, HB.out.trans (T4.out.mono (by simp))⟩
  | true =>
    have HS := Lib.hid hs
    obtain ⟨hg, s, t, rfl, rfl, hsn, htn⟩ := two_true hs
    cases hu : isS l u with
    | false =>
      have HU := Lib.hid hu
      rw [show triE l (s : Int) (t : Int) u = -1 by unfold triE triB; rw [if_neg (by simp [hu])]]
      obtain ⟨p, EP⟩ : ∃ p, Hid (l.getD 0 1 = p) := ⟨_, Lib.hid rfl⟩
      obtain ⟨q, EQ⟩ : ∃ q, Hid (l.getD 1 1 = q) := ⟨_, Lib.hid rfl⟩
      obtain ⟨r, ER⟩ : ∃ r, Hid (l.getD 2 1 = r) := ⟨_, Lib.hid rfl⟩
      clear hs hu hg hsn htn
      go_enter Tryd.func38, Tryd.ntmps38
      go_wp2_with (first
        | (go_at_call 72; refine (iSetIn_no _ _ _ _ _ _ HN.out hm (HI.out.below rfl T2.out) HU.out).mono ?_; rintro e w3 ⟨rfl, hb3⟩; have T4 := Lib.hid ((T2.out.trans (hb3.mono T2.out.size)).trans ((Joins.below_alloc2 w3 (.cells #[.int .i64 0, .int .i64 0, .int .i64 0] 51) (.cells #[.int .u64 0] 53)).mono (Nat.le_trans T2.out.size hb3.size))))
        | (go_at_call 60; refine (iSetsIn_yes _ _ _ _ _ _ _ HN.out hm (HI.out.below rfl T0.out) HS.out).mono ?_; rw [EP.out, EQ.out, ER.out]; rintro e w1 ⟨rfl, hb1⟩; have T2 := Lib.hid ((T0.out.trans (hb1.mono T0.out.size)).trans ((Joins.below_alloc2 w1 (.cells #[.int .i64 p, .int .i64 q, .int .i64 r] 51) (.cells #[.int .u64 t] 53)).mono (Nat.le_trans T0.out.size hb1.size))); have c2 := keepC T2.out (by simp) C1))
      go_ret
      exact ⟨rfl, HB.out.trans (T4.out.mono (by simp))⟩
    | true =>
      have HU := Lib.hid hu
      obtain ⟨_, c, rfl, hcn, hc24⟩ := isS_true hu
      have HRES : Hid (triE l (s : Int) (t : Int) (c : Int) = sumL (fun x => ((bitsN (movN l t x &&& c)).length : Int)) (bitsN s)) := Lib.hid (by
        rw [tri_prog hg htn]
        unfold triE triB
        rw [if_pos (by rw [hs, hu]; rfl)]
        rfl)
      rw [HRES.out]
      obtain ⟨i0, hi0, hz0, hz1, hz2⟩ := info_parts elInfo
      have HT := Lib.hid (tri_grp hg)
      have HP := prod_pad (grpB_true hg).1
      have HGV : Hid (∀ x, shG (l.getD 0 1) (l.getD 1 1) (l.getD 2 1) t x = movN l t x) := Lib.hid (fun x => shG_mov hg t x)
      have HV24 : Hid (∀ x, movN l t x < 16777216) := Lib.hid (fun x => movN_lt24 hg t x)
      have hsn24 := grp_pow hg hsn
      rw [HP] at hsn htn
      obtain ⟨p, EP⟩ : ∃ p, Hid (l.getD 0 1 = p) := ⟨_, Lib.hid rfl⟩
      obtain ⟨q, EQ⟩ : ∃ q, Hid (l.getD 1 1 = q) := ⟨_, Lib.hid rfl⟩
      obtain ⟨r, ER⟩ : ∃ r, Hid (l.getD 2 1 = r) := ⟨_, Lib.hid rfl⟩
      rw [EP.out, EQ.out, ER.out] at HT hsn htn HGV
      have HA := Lib.hid hsn
      have HTS := Lib.hid htn
      have HS24 := Lib.hid hsn24
      obtain ⟨f, HF⟩ : ∃ f : Nat → Nat, Hid (∀ x, movN l t x &&& c = f x) := ⟨fun x => movN l t x &&& c, Lib.hid (fun _ => rfl)⟩
      have HF24 : Hid (∀ x, f x < 16777216) := Lib.hid (fun x => by rw [← HF.out]; exact Nat.lt_of_le_of_lt Nat.and_le_left (HV24.out x))
      have HFV : Hid (∀ x, ∃ V : Nat, shG p q r t x = V ∧ bits .and .u64 (V : Int) (c : Int) = ((f x : Nat) : Int)) := Lib.hid (fun x => ⟨movN l t x, HGV.out x, by rw [← HF.out]; exact andU _ _ _ (HV24.out x) (by have : c < 16777216 := hc24; omega) rfl⟩)
      rw [show (fun x => ((bitsN (movN l t x &&& c)).length : Int)) = fun x => ((bitsN (f x)).length : Int) from funext (fun x => by rw [HF.out])]
      clear hs hu hg hsn htn hsn24 HP hcn hc24
      refine (callsIn_wide (n := 6)).1 ?_
      refine callsIn_of_wp_marks Tryd.func38 rfl trivial ?_ rfl
      simp only [Tryd.ntmps38, List.size_toArray, List.length_cons, List.length_nil, Nat.reduceAdd, Nat.reduceSub, Array.replicate_succ, Array.replicate_zero, List.push_toArray, List.append_toArray, List.nil_append, List.cons_append]
      gi_wp2
      refine ⟨trivial, ?_⟩
      refine (callsIn_wide.2 (iSetsIn_yes _ _ _ _ _ _ _ HN.out hm (HI.out.below rfl T0.out) HS.out)).mono ?_
      rw [EP.out, EQ.out, ER.out]
      rintro e w1 ⟨rfl, hb1⟩
      have T1 := Lib.hid ((T0.out.trans (hb1.mono T0.out.size)).trans ((Joins.below_alloc2 w1 (.cells #[.int .i64 p, .int .i64 q, .int .i64 r] 51) (.cells #[.int .u64 t] 53)).mono (Nat.le_trans T0.out.size hb1.size)))
      have c1 := keepC T1.out (by simp) C1
      have HI1 := Lib.hid (HI.out.below rfl T1.out)
      have R0 := Lib.hid (keepH (Joins.below_alloc1 _ (.cells #[.int .u64 t] 53)) (by simp) (heap_alloc_new w1 (.cells #[.int .i64 p, .int .i64 q, .int .i64 r] 51)))
      have R1 : Hid (((w1.alloc (.cells #[.int .i64 p, .int .i64 q, .int .i64 r] 51)).alloc (.cells #[.int .u64 t] 53)).heap[w1.heap.size + 1]? = some (.cells #[.int .u64 t] 53 (0, 0))) := Lib.hid (by simpa using heap_alloc_new (w1.alloc (.cells #[.int .i64 p, .int .i64 q, .int .i64 r] 51)) (.cells #[.int .u64 t] 53))
      clear hb1
      gi_wp2
      refine ⟨trivial, ?_⟩
      refine (callsIn_wide.2 (iSetIn_yes _ _ _ _ _ _ HN.out hm HI1.out HU.out)).mono ?_
      rw [EP.out, EQ.out, ER.out]
      rintro e w2 ⟨rfl, hb2⟩
      have HWX : Hid (∃ WX : World, WX = ((w2.alloc (.cells #[.int .i64 p, .int .i64 q, .int .i64 r] 51)).alloc (.cells #[.int .u64 c] 53)).alloc (.cells #[.slice none 0 0] 75)) := Lib.hid ⟨_, rfl⟩
      have hbx := Joins.below_alloc2 w2 (.cells #[.int .i64 p, .int .i64 q, .int .i64 r] 51) (.cells #[.int .u64 c] 53)
      have hby := Joins.below_alloc1 ((w2.alloc (.cells #[.int .i64 p, .int .i64 q, .int .i64 r] 51)).alloc (.cells #[.int .u64 c] 53)) (.cells #[.slice none 0 0] 75)
      have hs2 : ((w2.alloc (.cells #[.int .i64 p, .int .i64 q, .int .i64 r] 51)).alloc (.cells #[.int .u64 c] 53)).heap.size = w2.heap.size + 2 := by simp
      have hs1 : ((w1.alloc (.cells #[.int .i64 p, .int .i64 q, .int .i64 r] 51)).alloc (.cells #[.int .u64 t] 53)).heap.size = w1.heap.size + 2 := by simp
      have hs12 := hb2.size
      have HBX : Hid (Below w.heap.size w (((w2.alloc (.cells #[.int .i64 p, .int .i64 q, .int .i64 r] 51)).alloc (.cells #[.int .u64 c] 53)).alloc (.cells #[.slice none 0 0] 75))) := Lib.hid
        (((HB.out.trans (T1.out.mono (by simp))).trans (hb2.mono (Nat.le_trans HB.out.size T1.out.size))).trans ((hbx.trans (hby.mono (by omega))).mono (Nat.le_trans (Nat.le_trans HB.out.size T1.out.size) hb2.size)))
      have X0 := Lib.hid (keepH hby (by omega) (keepH hbx (by omega) (keepH hb2 (by omega) R0.out)))
      have X1 := Lib.hid (keepH hby (by omega) (keepH hbx (by omega) (keepH hb2 (by omega) R1.out)))
      have XA : Hid ((((w2.alloc (.cells #[.int .i64 p, .int .i64 q, .int .i64 r] 51)).alloc (.cells #[.int .u64 c] 53)).alloc (.cells #[.slice none 0 0] 75)).heap[w2.heap.size + 1]? = some (.cells #[.int .u64 c] 53 (0, 0))) := Lib.hid (keepH hby (by omega) (by simpa using heap_alloc_new (w2.alloc (.cells #[.int .i64 p, .int .i64 q, .int .i64 r] 51)) (.cells #[.int .u64 c] 53)))
      have bO := Boxed.new ((w2.alloc (.cells #[.int .i64 p, .int .i64 q, .int .i64 r] 51)).alloc (.cells #[.int .u64 c] 53)) 75 (.slice none 0 0)
      have hLit : (((w2.alloc (.cells #[.int .i64 p, .int .i64 q, .int .i64 r] 51)).alloc (.cells #[.int .u64 c] 53)).alloc (.cells #[.slice none 0 0] 75)).ownsRow (w2.heap.size + 2) 53 1 (.slice none 0 0) 0 [] := ⟨rfl, .inl ⟨rfl, rfl⟩⟩
      have HTX := Lib.hid (HTZ.out.on (HBX.out.mono hB0))
      rw [hs2] at bO
      have hx1 : w1.heap.size + 2 ≤ w2.heap.size := by omega
      have hx2 : (((w2.alloc (.cells #[.int .i64 p, .int .i64 q, .int .i64 r] 51)).alloc (.cells #[.int .u64 c] 53)).alloc (.cells #[.slice none 0 0] 75)).heap.size = w2.heap.size + 3 := by simp
      have HBX0 := Lib.hid (Nat.le_trans (Nat.le_trans HB.out.size T1.out.size) hb2.size)
      clear hb2 hbx hby hs1 hs12 HWX
      gi_wp2
      refine each_loopP s HS24.out rfl B
        (fun pre W => (∃ v, Boxed W (w2.heap.size + 2) 75 v ∧ W.ownsRow (w2.heap.size + 2) 53 1 v pre.length (rowOfE f pre) ∧ True) ∧ Below (w2.heap.size + 2) (((w2.alloc (.cells #[.int .i64 p, .int .i64 q, .int .i64 r] 51)).alloc (.cells #[.int .u64 c] 53)).alloc (.cells #[.slice none 0 0] 75)) W)
        (OwnFrom.and (Own.from (holdsRow_own (w2.heap.size + 2) (w2.heap.size + 2) 75 53 1 (fun (pre : List Nat) => pre.length) (rowOfE f) (fun _ _ => True)) _) (ownFrom_below (by omega) (by omega)))
        (fun pre W h => HTX.out.on (h.2.mono (by have := HBX0.out; omega)))
        ⟨⟨_, bO, hLit, trivial⟩, Below.refl _ _⟩
        (fun y => { tmps := #[.agg #[.slice a n cap], .int .i64 (s : Nat), .int .i64 (t : Nat), .int .i64 (c : Nat), .pointer (some ⟨w.heap.size, 0, none⟩), undef, undef, undef, .int .i64 0, .pointer (some ⟨w1.heap.size, 0, none⟩), .int .u64 (s : Nat), .pointer (some ⟨w1.heap.size + 1, 0, none⟩), .bool true, .pointer (some ⟨w2.heap.size, 0, none⟩), .pointer (some ⟨w2.heap.size + 1, 0, none⟩), .bool true, .pointer (some ⟨w2.heap.size + 2, 0, none⟩), .int .i64 (y : Nat), .tuple #[tV p q r, .int .u64 (s : Nat), .int .u64 (t : Nat), .bool true], .agg #[.slice a n cap], .int .i64 (s : Nat), .int .i64 (t : Nat), .tuple #[tV p q r, .int .u64 (s : Nat), .int .u64 (t : Nat), .bool true], tV p q r, .int .u64 (s : Nat), .int .u64 (t : Nat), .bool true, .tuple #[tV p q r, .int .u64 (c : Nat), .bool true], .agg #[.slice a n cap], .int .i64 (c : Nat), .tuple #[tV p q r, .int .u64 (c : Nat), .bool true], tV p q r, .int .u64 (c : Nat), .bool true, .bool true, .bool false, .bool false, .bool true, .bool false, .bool false, .int .u64 (s : Nat), .func (.func 61) #[.int .u64 (s : Nat)] #[], .int .i64 (y : Nat), undef, undef, undef, undef, undef, undef, undef, undef, undef, undef, undef], defers := [] }) ?assign ?body ?done
      case assign =>
        intro lo y W K hK
        gi_wp2
        exact hK
      case body =>
        rintro lo pre y W hpin hbt hpl ⟨⟨v, hv, hrow, -⟩, hB⟩
        obtain ⟨WX, HWX⟩ : ∃ WX, Hid ((((w2.alloc (.cells #[.int .i64 p, .int .i64 q, .int .i64 r] 51)).alloc (.cells #[.int .u64 c] 53)).alloc (.cells #[.slice none 0 0] 75)) = WX) := ⟨_, Lib.hid rfl⟩
        rw [HWX.out] at hB X0 X1 XA
        rw [HWX.out]
        obtain ⟨BX, HBXE⟩ : ∃ BX, Hid (w2.heap.size + 2 = BX) := ⟨_, Lib.hid rfl⟩
        have hbx0 : w1.heap.size < BX ∧ w1.heap.size + 1 < BX ∧ w2.heap.size + 1 < BX := by have := HBXE.out; omega
        rw [HBXE.out] at hB hv hrow
        rw [HBXE.out]
        have HBW := Lib.hid hB
        have HBXL : Hid (BX ≤ WX.heap.size) := Lib.hid (by rw [← HWX.out, ← HBXE.out]; omega)
        have HBD := Lib.hid hB.drew
        have HRW := Lib.hid hrow.drew
        have HVD := Lib.hid (show Boxed W.drew BX 75 v from hv)
        have HYN := Lib.hid (tri_elt HT.out HA.out hbt)
        obtain ⟨V, hV1, hV2⟩ := HFV.out y
        have HVC := Lib.hid hV2
        have HSH := Lib.hid (fun (W : World) => iShG W p q r t y HT.out HTS.out HYN.out)
        rw [hV1] at HSH
        have HSS : Hid (∀ W' : World, Below BX WX W' → (W'.cell? ⟨w1.heap.size, 0, none⟩ = some (.int .i64 p) ∧ W'.cell? ⟨w1.heap.size, 1, none⟩ = some (.int .i64 q) ∧ W'.cell? ⟨w1.heap.size, 2, none⟩ = some (.int .i64 r) ∧ W'.cell? ⟨w1.heap.size + 1, 0, none⟩ = some (.int .u64 (t : Nat)) ∧ W'.cell? ⟨w2.heap.size + 1, 0, none⟩ = some (.int .u64 (c : Nat)))) := Lib.hid (fun W' hW => by
          obtain ⟨z0, z1, z2, _, _, _⟩ := trip_cell (keepH hW hbx0.1 X0.out)
          exact ⟨z0, z1, z2, one_cellT (keepH hW hbx0.2.1 X1.out), one_cellT (keepH hW hbx0.2.2 XA.out)⟩)
        have hpl24 : pre.length < 24 := hpl
        clear hB hpin hbt hpl hV1 hV2
        gi_wp2
        refine region_round (S := (fun W' => W'.cell? ⟨w1.heap.size, 0, none⟩ = some (.int .i64 p) ∧ W'.cell? ⟨w1.heap.size, 1, none⟩ = some (.int .i64 q) ∧ W'.cell? ⟨w1.heap.size, 2, none⟩ = some (.int .i64 r) ∧ W'.cell? ⟨w1.heap.size + 1, 0, none⟩ = some (.int .u64 (t : Nat)) ∧ W'.cell? ⟨w2.heap.size + 1, 0, none⟩ = some (.int .u64 (c : Nat))))
          (by kernel_rfl) (no_deferT (by kernel_rfl)) (fun ⟨a', w', h'⟩ => by have h3 := And.left (a := Exit.outgrown = Exit.normal) h'; cases h3) (HSS.out _ HBD.out) (fun hHeld => ?_)
        refine wpAnyH_take (i := 1) (oi := _) (v := ?_) rfl (by as_aux_lemma => kernel_rfl) (by as_aux_lemma => kernel_rfl) (by as_aux_lemma => kernel_rfl) (fun _ _ _ h => h) (Or.inl ⟨by rfl, ?_⟩) (by assumption) ?_
        rotate_left
        · intro W' hSw
          try dsimp only at hSw
          obtain ⟨hs0, hs1, hs2, hs3, hs4⟩ := hSw
          simp only [List.getElem_toArray, List.getElem_cons_succ, List.getElem_cons_zero]
          go_simp
          try with_reducible rfl
        try simp only [Act.put, List.getElem_toArray, List.getElem_cons_succ, List.getElem_cons_zero, List.setIfInBounds_toArray, List.set_cons_zero, List.set_cons_succ]
        refine wpAnyH_take (i := 2) (oi := _) (v := ?_) rfl (by as_aux_lemma => kernel_rfl) (by as_aux_lemma => kernel_rfl) (by as_aux_lemma => kernel_rfl) (fun _ _ _ h => h) (Or.inl ⟨by rfl, ?_⟩) (by assumption) ?_
        rotate_left
        · intro W' hSw
          try dsimp only at hSw
          obtain ⟨hs0, hs1, hs2, hs3, hs4⟩ := hSw
          simp only [List.getElem_toArray, List.getElem_cons_succ, List.getElem_cons_zero]
          go_simp
          try with_reducible rfl
        try simp only [Act.put, List.getElem_toArray, List.getElem_cons_succ, List.getElem_cons_zero, List.setIfInBounds_toArray, List.set_cons_zero, List.set_cons_succ]
        refine wpAnyH_take (i := 3) (oi := _) (v := ?_) rfl (by as_aux_lemma => kernel_rfl) (by as_aux_lemma => kernel_rfl) (by as_aux_lemma => kernel_rfl) (fun _ _ _ h => h) (Or.inl ⟨by rfl, ?_⟩) (by assumption) ?_
        rotate_left
        · intro W' hSw
          try dsimp only at hSw
          obtain ⟨hs0, hs1, hs2, hs3, hs4⟩ := hSw
          simp only [List.getElem_toArray, List.getElem_cons_succ, List.getElem_cons_zero]
          go_simp
          try with_reducible rfl
        try simp only [Act.put, List.getElem_toArray, List.getElem_cons_succ, List.getElem_cons_zero, List.setIfInBounds_toArray, List.set_cons_zero, List.set_cons_succ]
        refine wpAnyH_take (i := 5) (oi := _) (v := ?_) rfl (by as_aux_lemma => kernel_rfl) (by as_aux_lemma => kernel_rfl) (by as_aux_lemma => kernel_rfl) (fun _ _ _ h => h) (Or.inl ⟨by rfl, ?_⟩) (by assumption) ?_
        rotate_left
        · intro W' hSw
          try dsimp only at hSw
          obtain ⟨hs0, hs1, hs2, hs3, hs4⟩ := hSw
          simp only [List.getElem_toArray, List.getElem_cons_succ, List.getElem_cons_zero]
          go_simp
          try with_reducible rfl
        try simp only [Act.put, List.getElem_toArray, List.getElem_cons_succ, List.getElem_cons_zero, List.setIfInBounds_toArray, List.set_cons_zero, List.set_cons_succ]
        refine wpAnyH_ready (rs := [0, 4]) (by as_aux_lemma => kernel_rfl) (by simp) ?_
        refine AllReadyH.cons (o := _) rfl (fun K hK => ?_) (AllReadyH.cons (o := _) rfl (fun K hK => ?_) (AllReadyH.nil))
        · have hx0 := HVD.out.cell
          simp only [List.getElem_toArray, List.getElem_cons_zero]
          go_simp
          refine hK.out _ _ (HSS.out _ HBD.out) (fun hHeld => ?_)
          clear hK K
          try simp only [Act.put, List.getElem_toArray, List.getElem_cons_succ, List.getElem_cons_zero, List.setIfInBounds_toArray, List.set_cons_zero, List.set_cons_succ]
          refine wpAnyH_ready (rs := [4]) (by as_aux_lemma => kernel_rfl) (by simp) ?_
          refine AllReadyH.cons (o := _) rfl (fun K hK => ?_) (AllReadyH.nil)
          simp only [List.getElem_toArray, List.getElem_cons_succ, List.getElem_cons_zero]
          go_simp
          refine (HSH.out _).mono ?_
          rintro e w9 ⟨rfl, hb9⟩
          have B9 := Lib.hid (HBD.out.trans (hb9.mono (Nat.le_trans HBXL.out HBD.out.size)))
          have BS9 := Lib.hid (Nat.le_trans HBXL.out B9.out.size)
          have HV9 := Lib.hid (show Boxed w9 BX 75 v from keepH hb9 (show BX < W.drew.heap.size from hv.lt) (show W.drew.heap[BX]? = _ from hv))
          have HR9 := Lib.hid (owns_below HRW.out hb9)
          have HKO := Lib.hid (keeps_belowT (W := W) (((Below.refl _ W).drew).trans (by simpa using hb9)))
          clear hb9
          refine hK.out _ _ (HSS.out _ B9.out) (fun hHeld => ?_)
          clear hK K
          try simp only [Act.put, List.getElem_toArray, List.getElem_cons_succ, List.getElem_cons_zero, List.setIfInBounds_toArray, List.set_cons_zero, List.set_cons_succ]
          refine wpAnyH_take (i := 6) (oi := _) (v := ?_) rfl (by as_aux_lemma => kernel_rfl) (by as_aux_lemma => kernel_rfl) (by as_aux_lemma => kernel_rfl) (fun _ _ _ h => h) (Or.inl ⟨by rfl, ?_⟩) (by assumption) ?_
          rotate_left
          · intro W' hSw
            try dsimp only at hSw
            obtain ⟨hs0, hs1, hs2, hs3, hs4⟩ := hSw
            simp only [List.getElem_toArray, List.getElem_cons_succ, List.getElem_cons_zero]
            go_simp
            try with_reducible rfl
          try simp only [Act.put, List.getElem_toArray, List.getElem_cons_succ, List.getElem_cons_zero, List.setIfInBounds_toArray, List.set_cons_zero, List.set_cons_succ]
          refine wpAnyH_ready (rs := [7]) (by as_aux_lemma => kernel_rfl) (by simp) ?_
          refine AllReadyH.cons (o := _) rfl (fun K hK => ?_) (AllReadyH.nil)
          simp only [List.getElem_toArray, List.getElem_cons_succ, List.getElem_cons_zero]
          go_simp
          refine hK.out _ _ (HSS.out _ (B9.out.alloc BS9.out _)) (fun hHeld => ?_)
          clear hK K
          try simp only [Act.put, List.getElem_toArray, List.getElem_cons_succ, List.getElem_cons_zero, List.setIfInBounds_toArray, List.set_cons_zero, List.set_cons_succ]
          refine wpAnyH_ready (rs := [8]) (by as_aux_lemma => kernel_rfl) (by simp) ?_
          refine AllReadyH.cons (o := _) rfl (fun K hK => ?_) (AllReadyH.nil)
          refine step_append_own rfl (.tmp 43) (.tmp 50) 75 rfl BX 53 i0 (.int .u64 0) 1 8 Tryd.underlying75 hi0 hz0 hz1 hz2 rfl (by decide) v pre.length (rowOfE f pre) (by simp [Act.eval]) (HR9.out.alloc (.cells #[(.int .u64 (bits .and .u64 (V : Int) (c : Int)))] 53)) ⟨w9.heap.size, 0, none⟩ 1 1 [(.int .u64 (bits .and .u64 (V : Int) (c : Int)))] (by simp [Act.eval]) rfl (cell_one_new _ _ _) (by simp [Value.oneCell']) (by unfold maxLen; omega) (by omega) (by have := BS9.out; simp; omega) ?_
          intro v2 w10 O10 hg10
          obtain ⟨g', cap', rfl⟩ := ownsRow_succ O10
          obtain ⟨hv1, hv2, hr2, hk2, hb2⟩ := HV9.out.appended (by decide) HR9.out BS9.out (Nat.le_refl _) O10 hg10
          have hc1 := hv1.cell
          have hf1 := hv1.frozen
          have B10 := Lib.hid (show Below BX WX w10 from ((B9.out.alloc BS9.out _).grown hg10 (by have := BS9.out; simp; omega) (fun q hq => (HR9.out.lt q hq).1)))
          have B11 := Lib.hid (B9.out.trans hb2)
          refine hK.out _ _ (HSS.out _ B10.out) (fun hHeld => ?_)
          clear hK K
          try simp only [Act.put, List.getElem_toArray, List.getElem_cons_succ, List.getElem_cons_zero, List.setIfInBounds_toArray, List.set_cons_zero, List.set_cons_succ]
          refine wpAnyH_ready (rs := [9]) (by as_aux_lemma => kernel_rfl) (by simp) ?_
          refine AllReadyH.cons (o := _) rfl (fun K hK => ?_) (AllReadyH.nil)
          simp only [List.getElem_toArray, List.getElem_cons_succ, List.getElem_cons_zero]
          go_simp
          refine hK.out _ _ (HSS.out _ B11.out) (fun hHeld => ?_)
          clear hK K
          try simp only [Act.put, List.getElem_toArray, List.getElem_cons_succ, List.getElem_cons_zero, List.setIfInBounds_toArray, List.set_cons_zero, List.set_cons_succ]
          refine wpAnyH_done (by kernel_rfl) ?_ _
          exact ⟨rfl, HKO.out.trans hk2, ⟨_, hv2, by rw [rowOfE_snoc, List.length_append, ← HVC.out]; exact hr2, trivial⟩, B11.out⟩
        · simp only [List.getElem_toArray, List.getElem_cons_succ, List.getElem_cons_zero]
          go_simp
          refine (HSH.out _).mono ?_
          rintro e w9 ⟨rfl, hb9⟩
          have B9 := Lib.hid (HBD.out.trans (hb9.mono (Nat.le_trans HBXL.out HBD.out.size)))
          have BS9 := Lib.hid (Nat.le_trans HBXL.out B9.out.size)
          have HV9 := Lib.hid (show Boxed w9 BX 75 v from keepH hb9 (show BX < W.drew.heap.size from hv.lt) (show W.drew.heap[BX]? = _ from hv))
          have HR9 := Lib.hid (owns_below HRW.out hb9)
          have HKO := Lib.hid (keeps_belowT (W := W) (((Below.refl _ W).drew).trans (by simpa using hb9)))
          clear hb9
          refine hK.out _ _ (HSS.out _ B9.out) (fun hHeld => ?_)
          clear hK K
          try simp only [Act.put, List.getElem_toArray, List.getElem_cons_succ, List.getElem_cons_zero, List.setIfInBounds_toArray, List.set_cons_zero, List.set_cons_succ]
          refine wpAnyH_take (i := 6) (oi := _) (v := ?_) rfl (by as_aux_lemma => kernel_rfl) (by as_aux_lemma => kernel_rfl) (by as_aux_lemma => kernel_rfl) (fun _ _ _ h => h) (Or.inl ⟨by rfl, ?_⟩) (by assumption) ?_
          rotate_left
          · intro W' hSw
            try dsimp only at hSw
            obtain ⟨hs0, hs1, hs2, hs3, hs4⟩ := hSw
            simp only [List.getElem_toArray, List.getElem_cons_succ, List.getElem_cons_zero]
            go_simp
            try with_reducible rfl
          try simp only [Act.put, List.getElem_toArray, List.getElem_cons_succ, List.getElem_cons_zero, List.setIfInBounds_toArray, List.set_cons_zero, List.set_cons_succ]
          refine wpAnyH_ready (rs := [0, 7]) (by as_aux_lemma => kernel_rfl) (by simp) ?_
          refine AllReadyH.cons (o := _) rfl (fun K hK => ?_) (AllReadyH.cons (o := _) rfl (fun K hK => ?_) (AllReadyH.nil))
          · have hx0 := HV9.out.cell
            simp only [List.getElem_toArray, List.getElem_cons_zero]
            go_simp
            refine hK.out _ _ (HSS.out _ B9.out) (fun hHeld => ?_)
            clear hK K
            try simp only [Act.put, List.getElem_toArray, List.getElem_cons_succ, List.getElem_cons_zero, List.setIfInBounds_toArray, List.set_cons_zero, List.set_cons_succ]
            refine wpAnyH_ready (rs := [7]) (by as_aux_lemma => kernel_rfl) (by simp) ?_
            refine AllReadyH.cons (o := _) rfl (fun K hK => ?_) (AllReadyH.nil)
            simp only [List.getElem_toArray, List.getElem_cons_succ, List.getElem_cons_zero]
            go_simp
            refine hK.out _ _ (HSS.out _ (B9.out.alloc BS9.out _)) (fun hHeld => ?_)
            clear hK K
            try simp only [Act.put, List.getElem_toArray, List.getElem_cons_succ, List.getElem_cons_zero, List.setIfInBounds_toArray, List.set_cons_zero, List.set_cons_succ]
            refine wpAnyH_ready (rs := [8]) (by as_aux_lemma => kernel_rfl) (by simp) ?_
            refine AllReadyH.cons (o := _) rfl (fun K hK => ?_) (AllReadyH.nil)
            refine step_append_own rfl (.tmp 43) (.tmp 50) 75 rfl BX 53 i0 (.int .u64 0) 1 8 Tryd.underlying75 hi0 hz0 hz1 hz2 rfl (by decide) v pre.length (rowOfE f pre) (by simp [Act.eval]) (HR9.out.alloc (.cells #[(.int .u64 (bits .and .u64 (V : Int) (c : Int)))] 53)) ⟨w9.heap.size, 0, none⟩ 1 1 [(.int .u64 (bits .and .u64 (V : Int) (c : Int)))] (by simp [Act.eval]) rfl (cell_one_new _ _ _) (by simp [Value.oneCell']) (by unfold maxLen; omega) (by omega) (by have := BS9.out; simp; omega) ?_
            intro v2 w10 O10 hg10
            obtain ⟨g', cap', rfl⟩ := ownsRow_succ O10
            obtain ⟨hv1, hv2, hr2, hk2, hb2⟩ := HV9.out.appended (by decide) HR9.out BS9.out (Nat.le_refl _) O10 hg10
            have hc1 := hv1.cell
            have hf1 := hv1.frozen
            have B10 := Lib.hid (show Below BX WX w10 from ((B9.out.alloc BS9.out _).grown hg10 (by have := BS9.out; simp; omega) (fun q hq => (HR9.out.lt q hq).1)))
            have B11 := Lib.hid (B9.out.trans hb2)
            refine hK.out _ _ (HSS.out _ B10.out) (fun hHeld => ?_)
            clear hK K
            try simp only [Act.put, List.getElem_toArray, List.getElem_cons_succ, List.getElem_cons_zero, List.setIfInBounds_toArray, List.set_cons_zero, List.set_cons_succ]
            refine wpAnyH_ready (rs := [9]) (by as_aux_lemma => kernel_rfl) (by simp) ?_
            refine AllReadyH.cons (o := _) rfl (fun K hK => ?_) (AllReadyH.nil)
            simp only [List.getElem_toArray, List.getElem_cons_succ, List.getElem_cons_zero]
            go_simp
            refine hK.out _ _ (HSS.out _ B11.out) (fun hHeld => ?_)
            clear hK K
            try simp only [Act.put, List.getElem_toArray, List.getElem_cons_succ, List.getElem_cons_zero, List.setIfInBounds_toArray, List.set_cons_zero, List.set_cons_succ]
            refine wpAnyH_done (by kernel_rfl) ?_ _
            exact ⟨rfl, HKO.out.trans hk2, ⟨_, hv2, by rw [rowOfE_snoc, List.length_append, ← HVC.out]; exact hr2, trivial⟩, B11.out⟩
          · simp only [List.getElem_toArray, List.getElem_cons_succ, List.getElem_cons_zero]
            go_simp
            refine hK.out _ _ (HSS.out _ (B9.out.alloc BS9.out _)) (fun hHeld => ?_)
            clear hK K
            try simp only [Act.put, List.getElem_toArray, List.getElem_cons_succ, List.getElem_cons_zero, List.setIfInBounds_toArray, List.set_cons_zero, List.set_cons_succ]
            refine wpAnyH_ready (rs := [0]) (by as_aux_lemma => kernel_rfl) (by simp) ?_
            refine AllReadyH.cons (o := _) rfl (fun K hK => ?_) (AllReadyH.nil)
            have hx0 := (HV9.out.alloc (.cells #[(.int .u64 (bits .and .u64 (V : Int) (c : Int)))] 53)).cell
            simp only [List.getElem_toArray, List.getElem_cons_zero]
            go_simp
            refine hK.out _ _ (HSS.out _ (B9.out.alloc BS9.out _)) (fun hHeld => ?_)
            clear hK K
            try simp only [Act.put, List.getElem_toArray, List.getElem_cons_succ, List.getElem_cons_zero, List.setIfInBounds_toArray, List.set_cons_zero, List.set_cons_succ]
            refine wpAnyH_ready (rs := [8]) (by as_aux_lemma => kernel_rfl) (by simp) ?_
            refine AllReadyH.cons (o := _) rfl (fun K hK => ?_) (AllReadyH.nil)
            refine step_append_own rfl (.tmp 43) (.tmp 50) 75 rfl BX 53 i0 (.int .u64 0) 1 8 Tryd.underlying75 hi0 hz0 hz1 hz2 rfl (by decide) v pre.length (rowOfE f pre) (by simp [Act.eval]) (HR9.out.alloc (.cells #[(.int .u64 (bits .and .u64 (V : Int) (c : Int)))] 53)) ⟨w9.heap.size, 0, none⟩ 1 1 [(.int .u64 (bits .and .u64 (V : Int) (c : Int)))] (by simp [Act.eval]) rfl (cell_one_new _ _ _) (by simp [Value.oneCell']) (by unfold maxLen; omega) (by omega) (by have := BS9.out; simp; omega) ?_
            intro v2 w10 O10 hg10
            obtain ⟨g', cap', rfl⟩ := ownsRow_succ O10
            obtain ⟨hv1, hv2, hr2, hk2, hb2⟩ := HV9.out.appended (by decide) HR9.out BS9.out (Nat.le_refl _) O10 hg10
            have hc1 := hv1.cell
            have hf1 := hv1.frozen
            have B10 := Lib.hid (show Below BX WX w10 from ((B9.out.alloc BS9.out _).grown hg10 (by have := BS9.out; simp; omega) (fun q hq => (HR9.out.lt q hq).1)))
            have B11 := Lib.hid (B9.out.trans hb2)
            refine hK.out _ _ (HSS.out _ B10.out) (fun hHeld => ?_)
            clear hK K
            try simp only [Act.put, List.getElem_toArray, List.getElem_cons_succ, List.getElem_cons_zero, List.setIfInBounds_toArray, List.set_cons_zero, List.set_cons_succ]
            refine wpAnyH_ready (rs := [9]) (by as_aux_lemma => kernel_rfl) (by simp) ?_
            refine AllReadyH.cons (o := _) rfl (fun K hK => ?_) (AllReadyH.nil)
            simp only [List.getElem_toArray, List.getElem_cons_succ, List.getElem_cons_zero]
            go_simp
            refine hK.out _ _ (HSS.out _ B11.out) (fun hHeld => ?_)
            clear hK K
            try simp only [Act.put, List.getElem_toArray, List.getElem_cons_succ, List.getElem_cons_zero, List.setIfInBounds_toArray, List.set_cons_zero, List.set_cons_succ]
            refine wpAnyH_done (by kernel_rfl) ?_ _
            exact ⟨rfl, HKO.out.trans hk2, ⟨_, hv2, by rw [rowOfE_snoc, List.length_append, ← HVC.out]; exact hr2, trivial⟩, B11.out⟩
      case done =>
        rintro D W hD ⟨⟨v, hv, hrow, -⟩, hB⟩ hK
        have hcl := hv.cell
        have HROW := Lib.hid hrow
        have HB6 := Lib.hid hB
        have HTO := Lib.hid (iTotE W _ v f (bitsN s) HF24.out (bits_le s) hrow)
        clear hv hrow hB
        gi_wp2
        refine ⟨trivial, ?_⟩
        refine (callsIn_wide.2 HTO.out).mono ?_
        rintro e w9 ⟨rfl, rfl⟩
        gi_wp2
        refine ⟨by simp, .inl ⟨_, _, rfl, run_takeDeferred hK, ?_⟩⟩
        exact ⟨_, results_tmp rfl _ _ _, rfl, (HBX.out.trans (HB6.out.mono (by have := HBX0.out; omega))).trans (belowK_b (w := w) (Nat.le_refl _) W D _ _ (by have := HBX0.out; omega) hK rfl rfl)⟩
end Go.Proofs.YthlpjiibjlaebaaDoor
