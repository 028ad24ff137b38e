/- Merged: ChaSpec2 ChaSpec3 CCSpec. -/
import Derived.Test.YticgoodmfjjggaaDoorChaPol
import Derived.Test.YticgoodmfjjggaaDoorGrpSpec
import Derived.Test.YticgoodmfjjggaaDoorBytes
import Derived.OwnWalk
import Derived.Deep.RegionWith
import Derived.Deep.RegionLaw
import Derived.Test.YticgoodmfjjggaaDoorGrpSpec6
import Derived.Test.YticgoodmfjjggaaDoorChaSpec
namespace Go.Proofs.YticgoodmfjjggaaDoor
open Go.RowKit
set_option maxRecDepth 1000000
def cntOk (x : Int) : Bool := decide (-1000 ≤ x) && decide (x ≤ 1000)
def cntB (p : List Int) : Bool := (p.all fun x => cntOk x) && (decide (1 ≤ (p.length : Int)) && decide ((p.length : Int) ≤ 24))
theorem cntB_no {p : List Int} {k : Nat} (hk : k < p.length) (h : cntOk (p.getD k 0) = false) : cntB p = false := by
  have : (p.all fun x => cntOk x) = false := by
    rw [List.all_eq_false]
    exact ⟨p.getD k 0, by simp [List.getD, hk], by rw [h]; simp⟩
  unfold cntB
  rw [this]
  rfl
theorem cntB_all {p : List Int} (h : ∀ k, k < p.length → cntOk (p.getD k 0) = true) : cntB p = (decide (1 ≤ (p.length : Int)) && decide ((p.length : Int) ≤ 24)) := by
  have : (p.all fun x => cntOk x) = true := by
    rw [List.all_eq_true]
    intro x hx
    obtain ⟨k, hk, rfl⟩ := List.getElem_of_mem hx
    have := h k hk
    simpa [List.getD, hk] using this
  unfold cntB
  rw [this]
  rfl
theorem cntB_yes {p : List Int} (h : cntB p = true) : (∀ k, k < p.length → -1000 ≤ p.getD k 0 ∧ p.getD k 0 ≤ 1000) ∧ 1 ≤ p.length ∧ p.length ≤ 24 := by
  unfold cntB at h
  simp only [Bool.and_eq_true, decide_eq_true_eq, List.all_eq_true] at h
  refine ⟨fun k hk => ?_, by omega, by omega⟩
  have h1 := h.1 (p.getD k 0) (by simp [List.getD, hk])
  unfold cntOk at h1
  simpa using h1
/-- The sums of the first k numbers. -/
def addK (p q : List Int) (k : Nat) : List Int := (List.range k).map fun i => p.getD i 0 + q.getD i 0
theorem addK_len (p q : List Int) (k : Nat) : (addK p q k).length = k := by simp [addK]
theorem addK_next (p q : List Int) (k : Nat) : addK p q (k + 1) = addK p q k ++ [p.getD k 0 + q.getD k 0] := by simp [addK, List.range_succ]
def addB (p q : List Int) : Bool := cntB p && (cntB q && p.length == q.length)
def addC (p q : List Int) : List Int := if addB p q = true then addK p q p.length else []
theorem news1 (w : World) (x : Value) (T : TypeId) : ∀ (j : Nat) (u : Value), [x][j]? = some u → (w.alloc (.cells #[x] T)).cell? ((⟨w.heap.size, 0, none⟩ : Addr).add j) = some u := fun j u hu => by
  match j, hu with
  | 0, hu =>
    simp at hu
    subst hu
    simp [Addr.add]
end Go.Proofs.YticgoodmfjjggaaDoor

namespace Go.Proofs.YticgoodmfjjggaaDoor
open Go.RowKit
set_option maxRecDepth 1000000
theorem cell_grown7 {w w' : World} {g : Nat} (h : w.grownBy w' (some g)) {b k : Nat} (hb : b < w.heap.size) (hne : b ≠ g) {v : Option Value} (c : w.cell? ⟨b, k, none⟩ = v) : w'.cell? ⟨b, k, none⟩ = v := by
  rw [← c]
  unfold World.cell?
  simp only
  rw [h.block b hb (fun e => hne (by cases e; rfl))]
/-- One product is added at its place. -/
def mulS (p q : List Int) (N i k : Nat) (f : Nat → Int) : Nat → Int := fun z => f z + (if (i + k) % N = z then p.getD i 0 * q.getD k 0 else 0)
def mulI (p q : List Int) (N i : Nat) (f : Nat → Int) : Nat → Nat → Int
  | 0 => f
  | k + 1 => mulS p q N i k (mulI p q N i f k)
def mulO (p q : List Int) (N : Nat) : Nat → Nat → Int
  | 0 => fun _ => 0
  | i + 1 => mulI p q N i (mulO p q N i) N
def rowZ (f : Nat → Int) (n : Nat) : List Int := (List.range n).map f
theorem rowZ_len (f : Nat → Int) (n : Nat) : (rowZ f n).length = n := by simp [rowZ]
def rowV (f : Nat → Int) (n : Nat) : List Value := (rowZ f n).map (Value.int .i64)
theorem rowV_len (f : Nat → Int) (n : Nat) : (rowV f n).length = n := by simp [rowV, rowZ_len]
theorem rowV_zero (n : Nat) : rowV (fun _ => 0) n = (madeCells #[Value.int .i64 0] n).toList := by
  rw [toList_madeCells_one]
  unfold rowV rowZ
  rw [List.map_map]
  apply List.ext_getElem <;> simp
theorem rowV_at (f : Nat → Int) (n k : Nat) (h : k < n) : (rowV f n)[k]? = some (.int .i64 (f k)) := by
  unfold rowV rowZ
  simp [h]
theorem rowV_set (f : Nat → Int) (n k : Nat) (h : k < n) (d : Int) : (rowV f n).set k (.int .i64 (f k + d)) = rowV (fun z => f z + (if k = z then d else 0)) n := by
  apply List.ext_getElem?
  intro j
  unfold rowV rowZ
  by_cases hjn : j < n
  · by_cases e : k = j
    · subst e
      simp [h]
    · simp [e, hjn]
  · have : n ≤ j := by omega
    by_cases e : k = j
    · omega
    · simp [this]
theorem prod_bnd7 {x y : Int} (x1 : -1000 ≤ x) (x2 : x ≤ 1000) (y1 : -1000 ≤ y) (y2 : y ≤ 1000) : -1000000 ≤ x * y ∧ x * y ≤ 1000000 := by
  have h : (x * y).natAbs ≤ 1000 * 1000 := by
    rw [Int.natAbs_mul]
    exact Nat.mul_le_mul (by omega) (by omega)
  omega
theorem mulI_bnd {p q : List Int} (hp : ∀ k, k < p.length → -1000 ≤ p.getD k 0 ∧ p.getD k 0 ≤ 1000) (hq : ∀ k, k < q.length → -1000 ≤ q.getD k 0 ∧ q.getD k 0 ≤ 1000) {N i : Nat} (hi : i < p.length) {f : Nat → Int} {B : Int} (hf : ∀ z, -B ≤ f z ∧ f z ≤ B) : ∀ k, k ≤ q.length → ∀ z, -(B + k * 1000000) ≤ mulI p q N i f k z ∧ mulI p q N i f k z ≤ B + k * 1000000
  | 0, _, z => by have := hf z; simp only [mulI]; omega
  | k + 1, hk, z => by
    have h := mulI_bnd hp hq (N := N) hi hf k (by omega) z
    have h2 := prod_bnd7 (hp i hi).1 (hp i hi).2 (hq k (by omega)).1 (hq k (by omega)).2
    simp only [mulI, mulS]
    split <;> omega
theorem mulO_bnd {p q : List Int} (hp : ∀ k, k < p.length → -1000 ≤ p.getD k 0 ∧ p.getD k 0 ≤ 1000) (hq : ∀ k, k < q.length → -1000 ≤ q.getD k 0 ∧ q.getD k 0 ≤ 1000) {N : Nat} (hN : N ≤ q.length) (h24 : N ≤ 24) : ∀ i, i ≤ p.length → ∀ z, -((i : Int) * 24000000) ≤ mulO p q N i z ∧ mulO p q N i z ≤ (i : Int) * 24000000
  | 0, _, z => by simp [mulO]
  | i + 1, hi, z => by
    have h := mulO_bnd hp hq hN h24 i (by omega)
    have := mulI_bnd hp hq (N := N) (show i < p.length by omega) h N hN z
    simp only [mulO]
    omega
theorem mulI_all {p q : List Int} (hp : ∀ k, k < p.length → -1000 ≤ p.getD k 0 ∧ p.getD k 0 ≤ 1000) (hq : ∀ k, k < q.length → -1000 ≤ q.getD k 0 ∧ q.getD k 0 ≤ 1000) {N : Nat} (hN : N = q.length) (hM : N = p.length) (h24 : N ≤ 24) (i k : Nat) (hi : i < N) (hk : k ≤ N) (z : Nat) : -1000000000 ≤ mulI p q N i (mulO p q N i) k z ∧ mulI p q N i (mulO p q N i) k z ≤ 1000000000 := by
  have h := mulO_bnd hp hq (N := N) (by omega) h24 i (by omega)
  have := mulI_bnd hp hq (N := N) (show i < p.length by omega) h k (by omega) z
  omega
def mulC (p q : List Int) : List Int := if addB p q = true then rowZ (mulO p q p.length p.length) p.length else []
end Go.Proofs.YticgoodmfjjggaaDoor

namespace Go.Proofs.YticgoodmfjjggaaDoor
open Go.RowKit
set_option maxRecDepth 1000000
/-- How many elements of a list have the value e. -/
def cntZ (l : List Int) (k : Int) (L : List Nat) (e : Nat) : Int := ((L.countP (fun x : Nat => chN l k (x : Int) == (e : Int)) : Nat) : Int)
theorem cntZ_nil (l : List Int) (k : Int) (e : Nat) : cntZ l k [] e = 0 := rfl
theorem cntZ_snoc (l : List Int) (k : Int) (L : List Nat) (y v e : Nat) (hv : chN l k (y : Int) = (v : Int)) : cntZ l k (L ++ [y]) e = cntZ l k L e + (if v = e then 1 else 0) := by
  unfold cntZ
  rw [List.countP_append, List.countP_singleton, hv]
  by_cases h : v = e
  · subst h; simp
  · have : ((v : Int) == (e : Int)) = false := by simp; omega
    simp [this, h]
theorem cntZ_bnd (l : List Int) (k : Int) (L : List Nat) (e : Nat) : 0 ≤ cntZ l k L e ∧ cntZ l k L e ≤ (L.length : Int) := by
  unfold cntZ
  have := List.countP_le_length (p := fun x : Nat => chN l k (x : Int) == (e : Int)) (l := L)
  omega
theorem take_snoc7 (s k : Nat) (h : k < (bitsN s).length) : (bitsN s).take (k + 1) = (bitsN s).take k ++ [(bitsN s).getD k 0] := by
  rw [List.take_add_one, List.getElem?_eq_getElem h]
  simp [List.getD, List.getElem?_eq_getElem h]
def ccB (l : List Int) (s k : Int) : Bool := isS l s && isE l k
def ccE (l : List Int) (s k : Int) : List Int := if ccB l s k = true then rowZ (cntZ l k (bitsN s.toNat)) (expN l).toNat else []
/-- A row that the call made, as it is read. -/
theorem own_read7 {w : World} {B : Nat} {v : Value} {l : List Int} (h : w.ownsRow B 3 1 v l.length (l.map (Value.int .i64))) :
    ∃ a cap, v = .slice a l.length cap ∧ (l = [] ∨ ∃ b off, a = some ⟨b, off, none⟩ ∧ B ≤ b ∧ b < w.heap.size ∧ ∀ i, i < l.length → w.cell? ⟨b, off + i, none⟩ = some (.int .i64 (l.getD i 0))) := by
  obtain ⟨a, cap, rfl⟩ := own_slice h
  refine ⟨a, cap, rfl, ?_⟩
  rcases own_ints h with h0 | ⟨b, off, rfl, hb, hc⟩
  · exact .inl h0
  · exact .inr ⟨b, off, rfl, (h.lt b (by simp [Value.ownBlock])).1, hb, hc⟩
set_option maxHeartbeats 4000000 in
theorem sCC (w : World) (a : Option Addr) (l : List Int) (n cap : Nat) (s k : Int) (hn : n = l.length) (hm : n ≤ 9223372036854775807) (hi : Ints w a l) :
    Calls Tryd.prog 6 #[.agg #[.slice a n cap], .int .i64 s, .int .i64 k] w fun e w' => ∃ v, e = .returned v ∧ w'.ownsRow w.heap.size 3 1 v (ccE l s k).length ((ccE l s k).map (Value.int .i64)) ∧ Below w.heap.size w w' := by
  have HI := Lib.hid (ints_alloc hi (.cells #[.slice a n cap] 27))
  have HN := Lib.hid hn
  have C1 := newC w (.slice a n cap) 27 (n := w.heap.size) rfl
  have HB := Lib.hid (Joins.below_alloc1 w (.cells #[.slice a n cap] 27))
  have T0 := Lib.hid (Below.refl (w.alloc (.cells #[.slice a n cap] 27)).heap.size (w.alloc (.cells #[.slice a n cap] 27)))
  clear hi hn
  cases hs : isS l s with
  | false =>
    have HS := Lib.hid hs
    rw [show ccE l s k = [] by unfold ccE ccB; rw [hs]; rfl]
    clear hs
    go_enter Tryd.func6, Tryd.ntmps6
    go_wp2_with (first
      | (go_at_call 17; refine (sIsSet _ _ _ _ _ _ HN.out hm (HI.out.below rfl T0.out)).mono ?_; rw [HS.out]; rintro e w1 ⟨rfl, hb1⟩; have T1 := Lib.hid (T0.out.trans (hb1.mono T0.out.size)); have c1 := keepC T1.out (by simp) C1))
    go_ret
    exact ⟨_, rfl, by simpa using World.ownsRow_lit (base := w.heap.size) (e := 3) (size := 1) w1 #[] 0 (Nat.le_trans (by simp) T1.out.size) (by simp [maxLen]) rfl, HB.out.trans ((T1.out.mono (by simp)).alloc (Nat.le_trans (by simp) T1.out.size) _)⟩
  | true =>
    have HS := Lib.hid hs
    cases hk : isE l k with
    | false =>
      have HK : Hid (false = isE l k) := Lib.hid hk.symm
      rw [show ccE l s k = [] by unfold ccE ccB; rw [hs, hk]; rfl]
      clear hs hk
      go_enter Tryd.func6, Tryd.ntmps6
      go_wp2_with (first
        | (go_at_call 18; refine (sIs _ _ _ _ _ _ _ HK.out HN.out hm (HI.out.below rfl T1.out)).mono ?_; rintro e w2 ⟨rfl, hb2⟩; have T2 := Lib.hid (T1.out.trans (hb2.mono T1.out.size)); have c2 := keepC T2.out (by simp) C1)
        | (go_at_call 17; refine (sIsSet _ _ _ _ _ _ HN.out hm (HI.out.below rfl T0.out)).mono ?_; rw [HS.out]; rintro e w1 ⟨rfl, hb1⟩; have T1 := Lib.hid (T0.out.trans (hb1.mono T0.out.size)); have c1 := keepC T1.out (by simp) C1))
      go_ret
      exact ⟨_, rfl, by simpa using World.ownsRow_lit (base := w.heap.size) (e := 3) (size := 1) w2 #[] 0 (Nat.le_trans (by simp) T2.out.size) (by simp [maxLen]) rfl, HB.out.trans ((T2.out.mono (by simp)).alloc (Nat.le_trans (by simp) T2.out.size) _)⟩
    | true =>
      have HK : Hid (true = isE l k) := Lib.hid hk.symm
      obtain ⟨i0, hi0, hz0, hz1, hz2⟩ := info_parts intInfo
      obtain ⟨hg, k0, k1, _⟩ := isE_23 hk
      have HRES : Hid (ccE l s k = rowZ (cntZ l k (bitsN s.toNat)) (expN l).toNat) := Lib.hid (by unfold ccE ccB; rw [hs, hk]; rfl)
      obtain ⟨_, s, rfl, hsn, hs24⟩ := isS_true hs
      rw [HRES.out, rowZ_len, Int.toNat_natCast]
      have he := expN_le hg
      obtain ⟨E, HE⟩ : ∃ E : Nat, Hid (expN l = (E : Int)) := ⟨(expN l).toNat, Lib.hid (by omega)⟩
      rw [HE.out] at he
      have HET : Hid ((expN l).toNat = E) := Lib.hid (by have := HE.out; omega)
      rw [HET.out]
      have HEE : Hid (expE l = (E : Int)) := Lib.hid (by rw [expE_grp hg, HE.out])
      have HCB := Lib.hid (fun x => chN_bnd (ords_grp hg) k x)
      rw [HE.out] at HCB
      have HG := Lib.hid hg
      have HA := Lib.hid hs24
      have hE1 : 1 ≤ E := by omega
      have hE24 : E ≤ 24 := by omega
      have HLB := Lib.hid (bits_le s)
      clear hs hk hg hsn hs24 he
      go_enter Tryd.func6, Tryd.ntmps6
      go_wp2_with (first
        | (go_at_call 20; refine (sL3I _ s HA.out).mono ?_; rintro e w6 ⟨v6, rfl, ho6, hb6⟩; obtain ⟨a6, cap6, rfl, hI6⟩ := own_read7 ho6; have I6 := Lib.hid hI6; have T6 := Lib.hid (T5.out.trans (hb6.mono T5.out.size)); have c6 := keepC T6.out (by simp) C1; have HB6 := Lib.hid hb6; clear ho6 hI6)
        | (at_make; refine wpList_make_full _ rfl _ _ 22 rfl w.heap.size 3 i0 (.int .i64 0) 1 Tryd.underlying22 hi0 hz0 hz1 .i64 .i64 _ _ E rfl rfl (by rfl) (by rfl) (by rw [hz2]; omega) (by unfold maxLen; omega) (Nat.le_trans (by simp) T3.out.size) ?_; intro w5 hown hgrow; have T5 := Lib.hid (T3.out.grown hgrow T3.out.size (fun q hq => by cases hq)); have O5 := Lib.hid hown; have L5 := Lib.hid hown.lt; have c5 := keepC T5.out (by simp) C1)
        | (go_at_call 19; refine (sExp _ _ l _ _ HN.out hm (HI.out.below rfl T2.out)).mono ?_; rw [HEE.out]; rintro e w3 ⟨rfl, hb3⟩; have T3 := Lib.hid (T2.out.trans (hb3.mono T2.out.size)); have c3 := keepC T3.out (by simp) C1)
        | (go_at_call 18; refine (sIs _ _ _ _ _ _ _ HK.out HN.out hm (HI.out.below rfl T1.out)).mono ?_; rintro e w2 ⟨rfl, hb2⟩; have T2 := Lib.hid (T1.out.trans (hb2.mono T1.out.size)); have c2 := keepC T2.out (by simp) C1)
        | (go_at_call 17; refine (sIsSet _ _ _ _ _ _ HN.out hm (HI.out.below rfl T0.out)).mono ?_; rw [HS.out]; rintro e w1 ⟨rfl, hb1⟩; have T1 := Lib.hid (T0.out.trans (hb1.mono T0.out.size)); have c1 := keepC T1.out (by simp) C1))
      have hg5 : w.heap.size + 1 ≤ w3.heap.size := Nat.le_trans (by simp) T3.out.size
      have hrow : w6.ownsRow w.heap.size 3 1 (.slice (some ⟨w3.heap.size, 0, none⟩) E E) E (rowV (cntZ l k ((bitsN s).take 0)) E) := by
        have e : rowV (cntZ l k ((bitsN s).take 0)) E = (madeCells #[Value.int .i64 0] E).toList := by rw [← rowV_zero E]; rfl
        rw [e]
        have := owns_below O5.out HB6.out
        rw [Nat.mul_one] at this
        exact this
      have HROW := Lib.hid hrow
      clear hrow
      obtain ⟨g5, HGG⟩ : ∃ g5, Hid (w3.heap.size = g5) := ⟨_, Lib.hid rfl⟩
      have HG5b : Hid (w.heap.size + 1 ≤ g5) := Lib.hid (by rw [← HGG.out]; exact hg5)
      have HG56 : Hid (g5 < w5.heap.size) := Lib.hid (by rw [← HGG.out]; exact (L5.out _ rfl).2)
      rw [HGG.out] at HROW
      rw [HGG.out]
      clear hg5
      go_loopw [9] (fun i wr => ∃ j : Nat, j ≤ (bitsN s).length ∧ i = .int .i64 j ∧ wr.ownsRow w.heap.size 3 1 (.slice (some ⟨g5, 0, none⟩) E E) E (rowV (cntZ l k ((bitsN s).take j)) E) ∧ w6.grownBy wr (some g5)) (fun i _ => (bitsN s).length - (intOf i).toNat)
      case atStart => exact ⟨0, Nat.zero_le _, rfl, HROW.out, World.grownBy.refl _ _⟩
      case round =>
        obtain ⟨j, hj, rfl, hr, hgr⟩ := hrel
        have HLN := Lib.hid (LI_len s)
        have hlen : ((LI s).length : Int) = ((bitsN s).length : Int) := by rw [HLN.out]
        have HR := Lib.hid hr
        have HGR := Lib.hid hgr
        clear hr
        by_cases hlt : j < (bitsN s).length
        · have hkl : j < (LI s).length := by rw [HLN.out]; exact hlt
          rcases I6.out with h0 | ⟨b, off, h1, hbg, hbl, hc⟩
          · rw [h0] at hkl; simp at hkl
          · subst h1
            have HBNE : Hid (b ≠ g5) := Lib.hid (by have := HG56.out; omega)
            have r1 := cell_grown7 hgr hbl HBNE.out (hc j hkl)
            have hx23 := bits_at s j hlt
            have HTN := Lib.hid (take_snoc7 s j hlt)
            rw [LI_at s j hlt] at r1
            obtain ⟨x, HX⟩ : ∃ y, Hid ((bitsN s).getD j 0 = y) := ⟨_, Lib.hid rfl⟩
            rw [HX.out] at HTN hx23 r1
            obtain ⟨v1, v2⟩ := HCB.out (x : Int)
            obtain ⟨v, hv⟩ : ∃ v : Nat, chN l k (x : Int) = (v : Int) := ⟨(chN l k (x : Int)).toNat, by omega⟩
            have HVV := Lib.hid hv
            rw [hv] at v2
            have hvE : v < E := by omega
            obtain ⟨G, HF⟩ : ∃ G, Hid (cntZ l k ((bitsN s).take j) = G) := ⟨_, Lib.hid rfl⟩
            have HFN : Hid ((fun z => G z + (if v = z then 1 else 0)) = cntZ l k ((bitsN s).take (j + 1))) := Lib.hid (by
              funext z
              rw [HTN.out, cntZ_snoc l k _ x v z HVV.out, ← HF.out])
            have hFb : 0 ≤ G v ∧ G v ≤ 24 := by
              rw [← HF.out]
              have h1 := cntZ_bnd l k ((bitsN s).take j) v
              have h2 := List.length_take_le j (bitsN s)
              have h3 := HLB.out
              rw [List.length_take] at h1
              omega
            rw [HF.out] at HR
            obtain ⟨fv, HFV⟩ : ∃ fv, Hid (G v = fv) := ⟨_, Lib.hid rfl⟩
            rw [HFV.out] at hFb
            obtain ⟨f1, f2⟩ := hFb
            have hx0 : (0 : Int) ≤ (x : Int) := by omega
            have hx23' : (x : Int) ≤ 23 := by omega
            have hgb : w.heap.size ≠ g5 := by have := HG5b.out; omega
            have hw6 : w.heap.size < w6.heap.size := World.block_lt_of_cell? w6 _ c6
            have c8 := cell_grown7 hgr hw6 hgb c6
            have TI := Lib.hid ((T6.out.grown HGR.out T6.out.size (fun q hq => by cases hq; simp only [World.size_alloc]; exact HG5b.out)).drew)
            have HRD := Lib.hid HR.out.drew
            have hvi : ((v : Nat) : Int) < ((E : Nat) : Int) := by omega
            have HJ1 : Hid (j + 1 ≤ (bitsN s).length) := Lib.hid hlt
            have hj23 : (j : Int) ≤ 23 := by have := HLB.out; omega
            clear hgr hc hkl hv v1 hgb hw6
            go_wp2
            go_region_with (first | (go_at_call 21; refine (sVal7 _ _ l _ _ k (x : Int) k0 k1 hx0 hx23' HN.out hm HG.out (HI.out.below rfl TI.out)).mono ?_; rw [HVV.out]; rintro e w9 ⟨rfl, hb9⟩; have HR9 := Lib.hid (owns_below HRD.out hb9); have hfr := HR9.out.frozenAt v; have hcell := (HR9.out.cellAt v (by omega)).trans (rowV_at G E v hvE); rw [HFV.out] at hcell; have hst := (HR9.out.stored v (.int .i64 (G v + 1))).1; rw [rowV_set G E v hvE, HFN.out, HFV.out] at hst; have HST := Lib.hid hst; have HB9 := Lib.hid hb9; clear hst hb9))
            all_goals
              go_wp2
              go_roundw
              case rel => exact ⟨j + 1, HJ1.out, by go_num, by first | exact HST.out | simpa using HST.out, grownG_set (grownG_trans (grownG_trans HGR.out (below_grown (Below.refl _ _).drew _)) (below_grown HB9.out _)) v _⟩
              case measure => have := HJ1.out; simp [intOf]; omega
        · obtain rfl : j = (bitsN s).length := by omega
          go_wp2
          go_ret
          refine ⟨_, rfl, ?_, HB.out.trans ((T6.out.grown HGR.out T6.out.size (fun q hq => by cases hq; simp only [World.size_alloc]; exact HG5b.out)).mono (by simp))⟩
          have := HR.out
          rw [List.take_length] at this
          exact this
end Go.Proofs.YticgoodmfjjggaaDoor
