/- Merged: QV PutSpec SgMath SgSpec SgsN D5 DGrp DGrp2 DGrp4 DSum DVo DVo2 DEl DVo3 RowIn. -/
import Derived.Test.YtfkleihnafeoeaaGreatDoorMGAB
import Derived.Test.YtfkleihnafeoeaaGreatDoorSumSpec
import Derived.Test.YtfkleihnafeoeaaGreatDoorSubSpec
import Derived.Test.YtfkleihnafeoeaaGreatDoorMGAA
import Derived.Deep.RegionHeld3
import Derived.Deep.RegionLaw
import Derived.Test.YtfkleihnafeoeaaGreatDoorExtMath
import Derived.Deep.DeepCutAuto
import Derived.Deep.LoopGhost
import Derived.Deep.Draws
import Derived.Deep.QuietTactic
import Derived.Shelf.RegionOpenPlain
import Derived.IntWalk
namespace Go.Proofs.YtfkleihnafeoeaaGreatDoor
open Go.RowKit
set_option maxRecDepth 1000000
set_option linter.unusedVariables false
theorem On.tabE {W0 W : World} {B : Nat} (o : On W0 W) (hB : B ≤ W0.heap.size) (h : TabE B W0) : TabE B W := h.on (Below.mono o hB)
theorem qiVos {W0 W : World} {au : Option Addr} {cu : Nat} {l : List Int} {x y : Int} {B : Nat} (hi : Ints W0 au l) (hl : l.length ≤ 4) (hB : B ≤ W0.heap.size) (ht : TabE B W0) (o : On W0 W) :
    Calls Tryz.prog 6 #[.agg #[.slice au l.length cu], .int .i64 x, .int .i64 y] W fun e w' => e = .returned (.string (vosT (vosK l x y))) ∧ On W0 w' :=
  (iVos W au l _ cu x y rfl (by omega) (o.ints hi) B (Nat.le_trans hB (Below.size o)) (o.tabE hB ht)).mono fun _ _ h => ⟨h.1, o.step h.2⟩
theorem qiDfs {W0 W : World} {au : Option Addr} {cu : Nat} {l : List Int} {x : Int} {B : Nat} (hi : Ints W0 au l) (hl : l.length ≤ 4) (hB : B ≤ W0.heap.size) (ht : TabE B W0) (o : On W0 W) :
    Calls Tryz.prog 9 #[.agg #[.slice au l.length cu], .int .i64 x] W fun e w' => ∃ (a2 : Option Addr) (c2 : Nat), e = .returned (.slice a2 (dfsE l x).length c2) ∧ Ints w' a2 (dfsE l x) ∧ On W0 w' :=
  (iDfs W au l _ cu x rfl (by omega) (o.ints hi) B (Nat.le_trans hB (Below.size o)) (o.tabE hB ht).1).mono fun _ _ ⟨v, h1, h2, h3⟩ => by
    obtain ⟨a2, c2, rfl⟩ := own_slice h2
    exact ⟨a2, c2, h1, own_ints h2, o.step h3⟩
theorem qiIsPr {W0 W : World} {au : Option Addr} {cu : Nat} {l : List Int} {x : Int} {B : Nat} (hi : Ints W0 au l) (hl : l.length ≤ 4) (hB : B ≤ W0.heap.size) (ht : TabE B W0) (o : On W0 W) :
    Calls Tryz.prog 12 #[.agg #[.slice au l.length cu], .int .i64 x] W fun e w' => e = .returned (.bool (decide (0 < ((dfsE l x).length : Int)))) ∧ On W0 w' :=
  (iIsPr W au l _ cu x rfl (by omega) (o.ints hi) B (Nat.le_trans hB (Below.size o)) (o.tabE hB ht).1).mono fun _ _ h => ⟨h.1, o.step h.2⟩
theorem qiCom {W0 W : World} {au : Option Addr} {cu : Nat} {l : List Int} {x y : Int} {B : Nat} (hi : Ints W0 au l) (hl : l.length ≤ 4) (hB : B ≤ W0.heap.size) (ht : TabE B W0) (o : On W0 W) :
    Calls Tryz.prog 17 #[.agg #[.slice au l.length cu], .int .i64 x, .int .i64 y] W fun e w' => e = .returned (.tuple #[.int .i64 (comE l x y), .bool (comB l x y)]) ∧ On W0 w' :=
  (iCom W au l _ cu x y rfl (by omega) (o.ints hi) B (Nat.le_trans hB (Below.size o)) (o.tabE hB ht)).mono fun _ _ h => ⟨h.1, o.step h.2⟩
theorem qiPrg {W0 W : World} {au : Option Addr} {cu : Nat} {l : List Int} {x y z : Int} {B : Nat} (hi : Ints W0 au l) (hl : l.length ≤ 4) (hB : B ≤ W0.heap.size) (ht : TabE B W0) (o : On W0 W) :
    Calls Tryz.prog 22 #[.agg #[.slice au l.length cu], .int .i64 x, .int .i64 y, .int .i64 z] W fun e w' => e = .returned (.int .i64 (prgE l x y z)) ∧ On W0 w' :=
  (iPrg W au l _ cu x y z rfl (by omega) (o.ints hi)).mono fun _ _ h => ⟨h.1, o.step h.2⟩
theorem qiLng {W0 W : World} {au : Option Addr} {cu : Nat} {l : List Int} {x : Int} {B : Nat} (hi : Ints W0 au l) (hl : l.length ≤ 4) (hB : B ≤ W0.heap.size) (ht : TabE B W0) (o : On W0 W) :
    Calls Tryz.prog 13 #[.agg #[.slice au l.length cu], .int .i64 x] W fun e w' => e = .returned (.int .i64 (lngE l x)) ∧ On W0 w' :=
  (iLng W au l _ cu x rfl (by omega) (o.ints hi)).mono fun _ _ h => ⟨h.1, o.step h.2⟩
theorem qiPrm {W0 W : World} {au : Option Addr} {cu : Nat} {l : List Int} {B : Nat} (hi : Ints W0 au l) (hl : l.length ≤ 4) (hB : B ≤ W0.heap.size) (ht : TabE B W0) (o : On W0 W) :
    Calls Tryz.prog 25 #[.agg #[.slice au l.length cu]] W fun e w' => e = .returned (.bool (prmB l)) ∧ On W0 w' :=
  (iPrm W au l _ cu  rfl (by omega) (o.ints hi)).mono fun _ _ h => ⟨h.1, o.step h.2⟩
theorem qvCns {W0 W : World} {au : Option Addr} {cu : Nat} {l : List Int} {x : Int} (hi : Ints W0 au l) (hl : l.length ≤ 4) (o : On W0 W) :
    Calls Tryz.prog 14 #[.agg #[.slice au l.length cu], .int .i64 x] W fun e w' => e = .returned (.int .i64 (cntE l x)) ∧ On W0 w' :=
  (sCount W au l _ cu x rfl (by omega) (o.ints hi)).mono fun _ _ h => ⟨h.1, o.step h.2⟩
theorem qvNeg {W0 W : World} {au : Option Addr} {cu : Nat} {l : List Int} {x : Int} (hi : Ints W0 au l) (hl : l.length ≤ 4) (o : On W0 W) :
    Calls Tryz.prog 15 #[.agg #[.slice au l.length cu], .int .i64 x] W fun e w' => e = .returned (.int .i64 (negE l x)) ∧ On W0 w' :=
  (sNegE W au l _ cu x rfl (by omega) (o.ints hi)).mono fun _ _ h => ⟨h.1, o.step h.2⟩
end Go.Proofs.YtfkleihnafeoeaaGreatDoor

namespace Go.Proofs.YtfkleihnafeoeaaGreatDoor
open Go.RowKit
set_option maxRecDepth 1000000
def NL (L : List Nat) : List Int := L.map fun (x : Nat) => (x : Int)
theorem NL_len (L : List Nat) : (NL L).length = L.length := by simp [NL]
theorem NL_at (L : List Nat) (k : Nat) (h : k < L.length) : (NL L).getD k 0 = ((L.getD k 0 : Nat) : Int) := by simp [NL, List.getD, h]
/-- Ascending. -/
def Srt (L : List Nat) : Prop := L.Pairwise (· < ·)
theorem Srt.at {L : List Nat} (h : Srt L) {i j : Nat} (hij : i < j) (hj : j < L.length) : L.getD i 0 < L.getD j 0 := by
  have h2 := List.pairwise_iff_getElem.1 h i j (by omega) hj hij
  have hi : i < L.length := by omega
  simpa [List.getD, hi, hj] using h2
theorem getD_mem {L : List Nat} {j : Nat} (h : j < L.length) : L.getD j 0 ∈ L := by
  simp [List.getD, h]
theorem mem_getD {L : List Nat} {x : Nat} (h : x ∈ L) : ∃ j, j < L.length ∧ L.getD j 0 = x := by
  obtain ⟨j, hj, e⟩ := List.getElem_of_mem h
  exact ⟨j, hj, by simpa [List.getD, hj] using e⟩
theorem Srt.len {L : List Nat} (h : Srt L) (hb : ∀ x ∈ L, x < 2 ^ 24) : L.length ≤ 2 ^ 24 := by
  have := len_le_of_sub L (List.range (2 ^ 24)) (h.imp (fun h => Nat.ne_of_lt h)) (fun x hx => List.mem_range.2 (hb x hx))
  rwa [List.length_range] at this
/-- L' is L with n, once, ascending. -/
def PutOf (L : List Nat) (n : Nat) (L' : List Nat) : Prop := Srt L' ∧ ∀ m, m ∈ L' ↔ m ∈ L ∨ m = n
theorem put_same {L : List Nat} {n t : Nat} (h : Srt L) (ht : t < L.length) (e : L.getD t 0 = n) : PutOf L n L :=
  ⟨h, fun m => ⟨.inl, fun h => h.elim id (fun h => by rw [h, ← e]; exact getD_mem ht)⟩⟩
theorem put_new {L : List Nat} {n k : Nat} (h : Srt L) (hk : k ≤ L.length) (hup : ∀ j, k ≤ j → j < L.length → n < L.getD j 0) (hlo : ∀ j, j < k → L.getD j 0 < n) : PutOf L n (L.take k ++ [n] ++ L.drop k) := by
  have e : ∀ m, m ∈ L ↔ m ∈ L.take k ∨ m ∈ L.drop k := fun m => by rw [← List.mem_append, List.take_append_drop]
  have ht : ∀ m ∈ L.take k, m < n := fun m hm => by
    obtain ⟨j, hj, e⟩ := mem_getD hm
    rw [List.length_take] at hj
    have := hlo j (by omega)
    rw [← e]
    simp only [List.getD, List.getElem?_take] at *
    split
    · exact this
    · omega
  have hd : ∀ m ∈ L.drop k, n < m := fun m hm => by
    obtain ⟨j, hj, e⟩ := mem_getD hm
    rw [List.length_drop] at hj
    have := hup (k + j) (by omega) (by omega)
    rw [← e]
    simpa [List.getD] using this
  refine ⟨?_, fun m => ?_⟩
  · unfold Srt
    rw [List.pairwise_append, List.pairwise_append]
    refine ⟨⟨List.Pairwise.sublist (List.take_sublist _ _) h, List.pairwise_singleton _ _, fun a ha b hb => ?_⟩, List.Pairwise.sublist (List.drop_sublist _ _) h, fun a ha b hb => ?_⟩
    · rw [List.mem_singleton] at hb; rw [hb]; exact ht a ha
    · have h2 := hd b hb
      rcases List.mem_append.1 ha with h1 | h1
      · exact Nat.lt_trans (ht a h1) h2
      · rw [List.mem_singleton] at h1; omega
  · rw [List.mem_append, List.mem_append, List.mem_singleton, e m]
    constructor
    · rintro ((h1 | h1) | h1)
      · exact .inl (.inl h1)
      · exact .inr h1
      · exact .inl (.inr h1)
    · rintro ((h1 | h1) | h1)
      · exact .inl (.inl h1)
      · exact .inr h1
      · exact .inl (.inr h1)
/-- An ascending row of sets that the call owns. -/
def RowL (w : World) (B : Nat) (v : Value) (L : List Nat) : Prop := (∃ g cap, v = .slice (some ⟨g, 0, none⟩) L.length cap) ∧ w.ownsRow B 3 1 v L.length ((NL L).map (Value.int .i64)) ∧ Srt L ∧ ∀ x ∈ L, x < 2 ^ 24
theorem RowL.on {w w' : World} {B : Nat} {v : Value} {L : List Nat} (h : RowL w B v L) (hb : Below w.heap.size w w') : RowL w' B v L := ⟨h.1, owns_below h.2.1 hb, h.2.2⟩
theorem own_some {w : World} {B n : Nat} {v : Value} {xs : List Value} (h : w.ownsRow B 3 1 v n xs) (hn : 0 < n) : ∃ g cap, v = .slice (some ⟨g, 0, none⟩) n cap := by
  rcases h.2 with ⟨_, h3⟩ | ⟨g, cap, _, h4, _⟩
  · omega
  · exact ⟨g, cap, h4⟩
theorem news_take {W : World} {g : Nat} {l : List Int} (hi : Ints W (some ⟨g, 0, none⟩) l) (K : Nat) : ∀ (j : Nat) (u : Value), ((l.take K).map (Value.int .i64))[j]? = some u → W.cell? ((⟨g, 0, none⟩ : Addr).add j) = some u := by
  intro j u hu
  rcases hi with h0 | ⟨b, off, e, _, hc⟩
  · subst h0; simp at hu
  · cases e
    rw [List.getElem?_map, List.getElem?_take] at hu
    split at hu
    · by_cases hj : j < l.length
      · have := hc j hj
        rw [show (⟨g, 0, none⟩ : Addr).add j = ⟨g, 0 + j, none⟩ by simp [Addr.add]; try omega, this]
        simpa [List.getD, hj] using hu
      · rw [List.getElem?_eq_none (by omega)] at hu; cases hu
    · cases hu
theorem news_drop {W : World} {g : Nat} {l : List Int} (hi : Ints W (some ⟨g, 0, none⟩) l) (K : Nat) : ∀ (j : Nat) (u : Value), ((l.drop K).map (Value.int .i64))[j]? = some u → W.cell? ((⟨g, K, none⟩ : Addr).add j) = some u := by
  intro j u hu
  rcases hi with h0 | ⟨b, off, e, _, hc⟩
  · subst h0; simp at hu
  · cases e
    rw [List.getElem?_map, List.getElem?_drop] at hu
    by_cases hj : K + j < l.length
    · have := hc (K + j) hj
      rw [show (⟨g, K, none⟩ : Addr).add j = ⟨g, 0 + (K + j), none⟩ by simp [Addr.add]; try omega, this]
      simpa [List.getD, hj] using hu
    · rw [List.getElem?_eq_none (by omega)] at hu; cases hu
theorem news_one {W : World} {b : Nat} {x : Value} (h : W.cell? ⟨b, 0, none⟩ = some x) : ∀ (j : Nat) (u : Value), [x][j]? = some u → W.cell? ((⟨b, 0, none⟩ : Addr).add j) = some u := by
  intro j u hu
  match j, hu with
  | 0, hu => simp at hu; subst hu; simpa [Addr.add] using h
theorem put_vals (L : List Nat) (n K : Nat) : (([] : List Value) ++ ((NL L).take K).map (Value.int .i64) ++ [.int .i64 (n : Nat)]) ++ ((NL L).drop K).map (Value.int .i64) = (NL (L.take K ++ [n] ++ L.drop K)).map (Value.int .i64) := by
  simp [NL, List.map_take, List.map_drop]
theorem row_put {w : World} {B B0 : Nat} {v : Value} {L : List Nat} {n K len : Nat} (h24 : (∀ x ∈ L, x < 2 ^ 24) ∧ n < 2 ^ 24 ∧ B ≤ B0) (hp : PutOf L n (L.take K ++ [n] ++ L.drop K)) (hl : L.length = len ∧ K ≤ len)
    (ho : w.ownsRow B0 3 1 v (0 + K + 1 + (len - K)) (([] ++ ((NL L).take K).map (Value.int .i64) ++ [.int .i64 (n : Nat)]) ++ ((NL L).drop K).map (Value.int .i64))) : RowL w B v (L.take K ++ [n] ++ L.drop K) := by
  have e : (L.take K ++ [n] ++ L.drop K).length = 0 + K + 1 + (len - K) := by
    have := hl.1; have := hl.2
    simp; omega
  rw [put_vals, ← e] at ho
  refine ⟨own_some ho (by rw [e]; omega), Joins.ownsRow_le ho h24.2.2, hp.1, fun x hx => ?_⟩
  rcases (hp.2 x).1 hx with h | h
  · exact h24.1 x h
  · rw [h]; exact h24.2.1
end Go.Proofs.YtfkleihnafeoeaaGreatDoor

namespace Go.Proofs.YtfkleihnafeoeaaGreatDoor
/-- The elements of s whose first j places are 0. -/
def Hd (l : List Int) (s j u : Nat) : Prop := s.testBit u = true ∧ ∀ i, i < j → i < l.length → dig l (u : Int) i = 0
theorem sg_mult {l : List Int} (hg : grpB l = true) {s u : Nat} (hs : IsSg l s) (hu : s.testBit u = true) : ∀ k, s.testBit (multN l u k) = true
  | 0 => by rw [multN_zero]; exact hs.2.1
  | k + 1 => by rw [← multN_succ hg]; exact hs.2.2 u _ hu (sg_mult hg hs hu k)
theorem multN_dig {l : List Int} (hg : grpB l = true) (u k : Nat) {j : Nat} (hj : j < l.length) : dig l (multN l u k : Nat) j = dig l (u : Int) j * (k : Int) % l.getD j 0 := by
  rw [multN_nat hg, mulN_dig (ords_grp hg) _ _ hj]; rfl
/-- The negative of a multiple is a multiple. -/
theorem mult_neg {l : List Int} (hg : grpB l = true) (u : Nat) (k : Nat) : ∃ m : Nat, addN l (multN l u k : Nat) (multN l u m : Nat) = 0 := by
  have hO := ords_grp hg
  obtain ⟨m, m1, m2, m3, _⟩ := isOrd_ex hO (u : Int)
  have hadd := multN_add hg u
  have hzero : ∀ a : Nat, multN l u (m * a) = 0 := by
    intro a
    induction a with
    | zero => rw [Nat.mul_zero, multN_zero]
    | succ a ih =>
      have e : ((multN l u (m * a + m) : Nat) : Int) = 0 := by
        rw [← hadd, ih, show multN l u m = 0 by unfold multN; rw [m3]; rfl, show (((0 : Nat) : Nat) : Int) = 0 from rfl]
        exact addN_zero hO (by omega) (by have := hO.prod.1; omega)
      rw [Nat.mul_succ]; omega
  refine ⟨k * (m - 1), ?_⟩
  rw [hadd, show k + k * (m - 1) = m * k by
    obtain ⟨t, rfl⟩ : ∃ t, m = t + 1 := ⟨m - 1, by omega⟩
    rw [Nat.add_sub_cancel, Nat.mul_comm k t, Nat.succ_mul, Nat.add_comm], hzero]; rfl
theorem hd_end {l : List Int} (hg : grpB l = true) {s u j : Nat} (hs : IsSg l s) (hj : l.length ≤ j) (h : Hd l s j u) : u = 0 := by
  have hO := ords_grp hg
  have h1 := val_dig hO (x := (u : Int)) (by omega) (el_of hg hs.1 h.1)
  have h2 : valK l (dig l (u : Int)) l.length = valK l (fun _ => 0) l.length := val_congr l _ _ _ fun i hi => h.2 i (by omega) hi
  have h3 : ∀ k, valK l (fun _ => 0) k = 0 := by
    intro k; induction k with
    | zero => rfl
    | succ k ih => simp [valK, ih]
  rw [h2, h3] at h1
  omega
theorem hd_step {l : List Int} (hg : grpB l = true) {s : Nat} (hs : IsSg l s) (j : Nat) : ∃ h, Hd l s j h ∧ ∀ u, Hd l s j u → ∃ k v, Hd l s (j + 1) v ∧ (u : Int) = addN l (v : Int) (multN l h k : Nat) := by
  have hO := ords_grp hg
  have hz : Hd l s j 0 := ⟨hs.2.1, fun i _ _ => dig_zero0 l i⟩
  have triv : (∀ u, Hd l s j u → Hd l s (j + 1) u) → ∃ h, Hd l s j h ∧ ∀ u, Hd l s j u → ∃ k v, Hd l s (j + 1) v ∧ (u : Int) = addN l (v : Int) (multN l h k : Nat) := fun hup =>
    ⟨0, hz, fun u hu => ⟨0, u, hup u hu, by rw [multN_zero, show (((0 : Nat) : Nat) : Int) = 0 from rfl, addN_zero hO (by omega) (el_of hg hs.1 hu.1)]⟩⟩
  by_cases hj : j < l.length
  · by_cases hp : ∃ d : Nat, 0 < d ∧ ∃ u, Hd l s j u ∧ dig l (u : Int) j = (d : Int)
    · obtain ⟨d, d0, ⟨h, hh, hd⟩, hmin⟩ := least_pos _ hp
      refine ⟨h, hh, fun u hu => ?_⟩
      have hb := dig_bnd hg (u : Int) hj
      have hbh := dig_bnd hg (h : Int) hj
      obtain ⟨D, hD⟩ : ∃ D : Nat, dig l (u : Int) j = (D : Int) := ⟨(dig l (u : Int) j).toNat, by omega⟩
      -- u less D / d of h
      obtain ⟨m, hm⟩ := mult_neg hg h (D / d)
      have hv : s.testBit (addN l (u : Int) (multN l h m : Nat)).toNat = true := hs.2.2 _ u (sg_mult hg hs hh.1 m) hu.1
      obtain ⟨v, hve⟩ : ∃ v, (addN l (u : Int) (multN l h m : Nat)).toNat = v := ⟨_, rfl⟩
      have hvi : (v : Int) = addN l (u : Int) (multN l h m : Nat) := by rw [← hve, nat_add hO]
      rw [hve] at hv
      have hback : (u : Int) = addN l (v : Int) (multN l h (D / d) : Nat) := by
        rw [hvi, addN_assoc hO, addN_comm l (multN l h m : Nat), hm, addN_zero hO (by omega) (el_of hg hs.1 hu.1)]
      have hlow : ∀ i, i < j → i < l.length → dig l (v : Int) i = 0 := fun i hi hil => by
        rw [hvi, addN_dig hO _ _ hil, hu.2 i hi hil, multN_dig hg _ _ hil, hh.2 i hi hil]; simp
      have hvj : dig l (v : Int) j = ((D % d : Nat) : Int) := by
        -- both are the remainder below the order
        have e1 : dig l (u : Int) j = (dig l (v : Int) j + dig l (multN l h (D / d) : Nat) j) % l.getD j 0 := by
          rw [← addN_dig hO _ _ hj, ← hback]
        rw [multN_dig hg _ _ hj, hd, hD, Int.add_emod_emod] at e1
        have hvb := dig_bnd hg (v : Int) hj
        obtain ⟨V, hV⟩ : ∃ V : Nat, dig l (v : Int) j = (V : Int) := ⟨(dig l (v : Int) j).toNat, by omega⟩
        obtain ⟨M, hM⟩ : ∃ M : Nat, l.getD j 0 = (M : Int) := ⟨(l.getD j 0).toNat, by omega⟩
        rw [hV, hM] at e1
        rw [hV, hM] at hvb
        rw [hD, hM] at hb
        rw [hV]
        have e2 : D = (V + d * (D / d)) % M := by
          have : ((D : Nat) : Int) = (((V + d * (D / d)) % M : Nat) : Int) := by
            rw [Int.natCast_emod, Int.natCast_add, Int.natCast_mul]; exact e1
          omega
        have e3 := Nat.div_add_mod D d
        have e4 : D % d < d := Nat.mod_lt _ d0
        generalize d * (D / d) = Q at *
        have hDM : D < M := by omega
        have hVM : V < M := by omega
        rcases Nat.lt_or_ge (V + Q) M with h9 | h9
        · rw [Nat.mod_eq_of_lt h9] at e2; omega
        · rw [Nat.mod_eq_sub_mod h9, Nat.mod_eq_of_lt (by omega)] at e2; omega
      refine ⟨D / d, v, ⟨hv, fun i hi hil => ?_⟩, hback⟩
      by_cases hij : i < j
      · exact hlow i hij hil
      · obtain rfl : i = j := by omega
        rw [hvj]
        by_cases h0 : D % d = 0
        · rw [h0]; rfl
        · exact absurd ⟨v, ⟨hv, hlow⟩, hvj⟩ (hmin (D % d) (by omega) (Nat.mod_lt _ d0))
    · refine triv fun u hu => ⟨hu.1, fun i hi hil => ?_⟩
      by_cases hij : i < j
      · exact hu.2 i hij hil
      · obtain rfl : i = j := by omega
        have hb := dig_bnd hg (u : Int) hj
        by_cases h0 : dig l (u : Int) i = 0
        · exact h0
        · exact absurd ⟨(dig l (u : Int) i).toNat, by omega, u, hu, by omega⟩ hp
  · refine triv fun u hu => ⟨hu.1, fun i hi hil => hu.2 i (by omega) hil⟩
/-- Three generators. -/
theorem gen3 {l : List Int} (hg : grpB l = true) {s : Nat} (hs : IsSg l s) : ∃ x y z, s.testBit x = true ∧ s.testBit y = true ∧ s.testBit z = true ∧
    ∀ u, s.testBit u = true → ∃ i j k : Nat, (u : Int) = addN l (addN l (multN l z k : Nat) (multN l y j : Nat)) (multN l x i : Nat) := by
  have hO := ords_grp hg
  obtain ⟨x, hx, h1⟩ := hd_step hg hs 0
  obtain ⟨y, hy, h2⟩ := hd_step hg hs 1
  obtain ⟨z, hz, h3⟩ := hd_step hg hs 2
  refine ⟨x, y, z, hx.1, hy.1, hz.1, fun u hu => ?_⟩
  obtain ⟨i, v, hv, e1⟩ := h1 u ⟨hu, fun i hi => absurd hi (by omega)⟩
  obtain ⟨j, t, ht, e2⟩ := h2 v hv
  obtain ⟨k, r, hr, e3⟩ := h3 t ht
  obtain rfl := hd_end hg hs (j := 2 + 1) (by have := (grpB_true hg).1; omega) hr
  refine ⟨i, j, k, ?_⟩
  rw [e1, e2, e3, addN_comm l (((0 : Nat) : Nat) : Int), show (((0 : Nat) : Nat) : Int) = 0 from rfl]
  rw [addN_zero hO (by omega) (by rw [multN_nat hg]; exact (mulN_bnd hO _ _).2)]
/-- What one element generates. -/
def cycN (l : List Int) (x : Nat) : Nat := extK l 1 x 24
theorem sg_one {l : List Int} (hg : grpB l = true) : IsClo l 0 1 := by
  have := clo_nil hg
  exact this
/-- What is generated holds the multiples of what generates, and no more, of one element. -/
theorem clo_cyc {l : List Int} (hg : grpB l = true) {x c : Nat} (hx : (x : Int) < prodI l) (hc : IsClo l (2 ^ x) c) (k : Nat) : c.testBit (multN l x k) = true := by
  have hlt : 2 ^ x < 2 ^ (prodI l).toNat := Nat.pow_lt_pow_right (by decide) (by have := (ords_grp hg).prod.1; omega)
  exact sg_mult hg (hc.sg hg) (hc.holds hg hlt x (by rw [Nat.testBit_two_pow]; simp)) k
theorem clo_in {l : List Int} {x c s : Nat} (hs : IsSg l s) (hx : s.testBit x = true) (hc : IsClo l (2 ^ x) c) : Part c s :=
  hc.least s ⟨hs.2.1, fun u y hu hy => by
    rw [Nat.testBit_two_pow, decide_eq_true_eq] at hu
    subst hu
    exact hs.2.2 _ y hx hy⟩
/-- The sum of subgroups is a subgroup. -/
theorem sum_sg {l : List Int} (hg : grpB l = true) {s t : Nat} (hs : IsSg l s) (ht : IsSg l t) : IsSg l (sumN l s t) := by
  have hO := ords_grp hg
  have hs24 := grp_pow hg hs.1
  have ht24 := grp_pow hg ht.1
  refine ⟨sumN_lt hg s t, (sumN_bit l hs24 ht24 0).2 ⟨0, 0, ht.2.1, hs.2.1, ?_⟩, fun u v hu hv => ?_⟩
  · rw [show (((0 : Nat) : Nat) : Int) = 0 from rfl, addN_zero hO (by omega) (by have := hO.prod.1; omega)]; rfl
  · obtain ⟨a, b, ha, hb, e1⟩ := (sumN_bit l hs24 ht24 u).1 hu
    obtain ⟨c, d, hc, hd, e2⟩ := (sumN_bit l hs24 ht24 v).1 hv
    refine (sumN_bit l hs24 ht24 _).2 ⟨(addN l (c : Int) (a : Int)).toNat, (addN l (d : Int) (b : Int)).toNat, ht.2.2 a c ha hc, hs.2.2 b d hb hd, ?_⟩
    rw [← e1, ← e2, nat_add hO, nat_add hO, nat_add hO, nat_add hO]
    -- (d + b) + (c + a) = (d + c) + (b + a)
    rw [addN_assoc hO, addN_assoc hO, ← addN_assoc hO (b : Int) (c : Int), ← addN_assoc hO (c : Int) (b : Int), addN_comm l (b : Int) (c : Int)]
theorem sum_in {l : List Int} {s t r : Nat} (hr : IsSg l r) (hs : s < 2 ^ 24) (ht : t < 2 ^ 24) (h1 : Part s r) (h2 : Part t r) : Part (sumN l s t) r := fun k hk => by
  obtain ⟨a, b, ha, hb, e⟩ := (sumN_bit l hs ht k).1 hk
  rw [← e]; exact hr.2.2 a b (h2 a ha) (h1 b hb)
/-- Every subgroup is a sum of three that one element generates each. -/
theorem sum3 {l : List Int} (hg : grpB l = true) {s : Nat} (hs : IsSg l s) : ∃ x y z a b c : Nat, (x : Int) < prodI l ∧ (y : Int) < prodI l ∧ (z : Int) < prodI l ∧ IsClo l (2 ^ x) a ∧ IsClo l (2 ^ y) b ∧ IsClo l (2 ^ z) c ∧
    sumN l (sumN l a b) c = s := by
  have hO := ords_grp hg
  obtain ⟨x, y, z, hx, hy, hz, hall⟩ := gen3 hg hs
  have p24 : ∀ {x : Nat}, s.testBit x = true → 2 ^ x < 2 ^ 24 := fun {x} h => by
    have h1 := el_of hg hs.1 h
    exact Nat.pow_lt_pow_right (by decide) (by have := hO.prod.2; omega)
  obtain ⟨a, ha⟩ := clo_ex hg (p24 hx)
  obtain ⟨b, hb⟩ := clo_ex hg (p24 hy)
  obtain ⟨c, hc⟩ := clo_ex hg (p24 hz)
  refine ⟨x, y, z, a, b, c, el_of hg hs.1 hx, el_of hg hs.1 hy, el_of hg hs.1 hz, ha, hb, hc, ?_⟩
  have a24 := grp_pow hg ha.lt
  have b24 := grp_pow hg hb.lt
  have c24 := grp_pow hg hc.lt
  have ab24 := grp_pow hg (sumN_lt hg a b)
  refine Part.same (sum_in hs ab24 c24 (sum_in hs a24 b24 (clo_in hs hx ha) (clo_in hs hy hb)) (clo_in hs hz hc)) fun u hu => ?_
  obtain ⟨i, j, k, e⟩ := hall u hu
  have e1 : u = (addN l ((addN l (multN l x i : Nat) (multN l y j : Nat)).toNat : Nat) (multN l z k : Nat)).toNat := by
    rw [nat_add hO, addN_comm l _ (multN l z k : Nat), addN_comm l (multN l x i : Nat), ← addN_assoc hO, ← e]; rfl
  rw [e1]
  exact (sumN_bit l ab24 c24 _).2 ⟨multN l z k, _, clo_cyc hg (el_of hg hs.1 hz) hc k, (sumN_bit l a24 b24 _).2 ⟨multN l y j, multN l x i, clo_cyc hg (el_of hg hs.1 hy) hb j, clo_cyc hg (el_of hg hs.1 hx) ha i, rfl⟩, rfl⟩
end Go.Proofs.YtfkleihnafeoeaaGreatDoor

namespace Go.Proofs.YtfkleihnafeoeaaGreatDoor
open Go.RowKit
set_option maxRecDepth 1000000
theorem srt_one : ∀ (L M : List Nat), Srt L → Srt M → (∀ m, m ∈ L ↔ m ∈ M) → L = M
  | [], [], _, _, _ => rfl
  | [], y :: M, _, _, h => absurd ((h y).2 (by simp)) (by simp)
  | x :: L, [], _, _, h => absurd ((h x).1 (by simp)) (by simp)
  | x :: L, y :: M, hL, hM, h => by
    have h1 := List.pairwise_cons.1 hL
    have h2 := List.pairwise_cons.1 hM
    have e : x = y := by
      rcases Nat.lt_trichotomy x y with h3 | h3 | h3
      · have := (h x).1 (by simp)
        rcases List.mem_cons.1 this with h4 | h4
        · exact h4
        · have := h2.1 x h4; omega
      · exact h3
      · have := (h y).2 (by simp)
        rcases List.mem_cons.1 this with h4 | h4
        · exact h4.symm
        · have := h1.1 y h4; omega
    subst e
    rw [srt_one L M h1.2 h2.2 (fun m => ⟨fun hm => by
      rcases List.mem_cons.1 ((h m).1 (List.mem_cons_of_mem _ hm)) with h4 | h4
      · rw [h4] at hm; exact absurd (h1.1 x hm) (Nat.lt_irrefl _)
      · exact h4, fun hm => by
      rcases List.mem_cons.1 ((h m).2 (List.mem_cons_of_mem _ hm)) with h4 | h4
      · rw [h4] at hm; exact absurd (h2.1 x hm) (Nat.lt_irrefl _)
      · exact h4⟩)]
/-- The list of all subgroups, ascending; empty for what is no group. -/
def SgList (l : List Int) (L : List Nat) : Prop := Srt L ∧ ∀ m, m ∈ L ↔ (grpB l = true ∧ IsSg l m)
theorem SgList.one {l : List Int} {L M : List Nat} (h : SgList l L) (g : SgList l M) : L = M := srt_one L M h.1 g.1 fun m => (h.2 m).trans (g.2 m).symm
/-- A list of subgroups. -/
def Snd (l : List Int) (L : List Nat) : Prop := ∀ m ∈ L, IsSg l m
theorem Snd.put {l : List Int} {L M : List Nat} {n : Nat} (h : Snd l L) (hn : IsSg l n) (hp : PutOf L n M) : Snd l M := fun m hm => by
  rcases (hp.2 m).1 hm with h1 | h1
  · exact h m h1
  · rw [h1]; exact hn
theorem PutOf.old {L M : List Nat} {n m : Nat} (hp : PutOf L n M) (h : m ∈ L) : m ∈ M := (hp.2 m).2 (.inl h)
theorem PutOf.new {L M : List Nat} {n : Nat} (hp : PutOf L n M) : n ∈ M := (hp.2 n).2 (.inr rfl)
theorem row_nil {w : World} {B g cap : Nat} (h : w.ownsRow B 3 1 (.slice (some ⟨g, 0, none⟩) 0 cap) 0 []) : RowL w B (.slice (some ⟨g, 0, none⟩) 0 cap) [] := ⟨⟨g, cap, rfl⟩, h, List.Pairwise.nil, fun x hx => by cases hx⟩
theorem RowL.le {w : World} {B B0 : Nat} {v : Value} {L : List Nat} (h : RowL w B v L) (hb : B0 ≤ B) : RowL w B0 v L := ⟨h.1, Joins.ownsRow_le h.2.1 hb, h.2.2⟩
theorem RowL.cell {w : World} {B : Nat} {v : Value} {L : List Nat} (h : RowL w B v L) : ∃ g cap, v = .slice (some ⟨g, 0, none⟩) L.length cap ∧ g < w.heap.size ∧ ∀ i, i < L.length → w.cell? ⟨g, i, none⟩ = some (.int .i64 ((L.getD i 0 : Nat) : Int)) := by
  obtain ⟨⟨g, cap, rfl⟩, ho, _, _⟩ := h
  refine ⟨g, cap, rfl, (ho.lt g rfl).2, fun i hi => ?_⟩
  have := ho.cellAt i (by omega)
  rw [this]
  simp [NL, hi]
/-- The cyclic subgroups of the elements below k. -/
def Cyc (l : List Int) (k : Nat) (L : List Nat) : Prop := ∀ m, m ∈ L ↔ ∃ y, y < k ∧ IsClo l (2 ^ y) m
theorem Cyc.step {l : List Int} {k c : Nat} {L M : List Nat} (h : Cyc l k L) (hc : IsClo l (2 ^ k) c) (hp : PutOf L c M) : Cyc l (k + 1) M := fun m => by
  rw [hp.2 m, h m]
  constructor
  · rintro (⟨y, h1, h2⟩ | h1)
    · exact ⟨y, by omega, h2⟩
    · rw [h1]; exact ⟨k, by omega, hc⟩
  · rintro ⟨y, h1, h2⟩
    by_cases hy : y = k
    · subst hy; exact .inr (h2.one hc)
    · exact .inl ⟨y, by omega, h2⟩
/-- The sums of two, so far: all of the first i, and of i itself with those below k. -/
def Two (l : List Int) (C : List Nat) (i k : Nat) (L : List Nat) : Prop := ∀ i' k', k' ≤ i' → (i' < i ∨ (i' = i ∧ k' < k)) → sumN l (C.getD i' 0) (C.getD k' 0) ∈ L
theorem Two.step {l : List Int} {C L M : List Nat} {i k n : Nat} (h : Two l C i k L) (e : sumN l (C.getD i 0) (C.getD k 0) = n) (hp : PutOf L n M) : Two l C i (k + 1) M := fun i' k' h1 h2 => by
  by_cases hk : i' = i ∧ k' = k
  · rw [hk.1, hk.2, e]; exact hp.new
  · exact hp.old (h i' k' h1 (by omega))
theorem Two.next {l : List Int} {C L : List Nat} {i k : Nat} (h : Two l C i k L) (hk : i < k) : Two l C (i + 1) 0 L := fun i' k' h1 h2 => h i' k' h1 (by omega)
/-- The sums of three, so far. -/
def Thr (l : List Int) (D C : List Nat) (i k : Nat) (L : List Nat) : Prop := (∀ m ∈ D, m ∈ L) ∧ ∀ i' k', k' < C.length → (i' < i ∨ (i' = i ∧ k' < k)) → sumN l (D.getD i' 0) (C.getD k' 0) ∈ L
theorem Thr.step {l : List Int} {D C L M : List Nat} {i k n : Nat} (h : Thr l D C i k L) (e : sumN l (D.getD i 0) (C.getD k 0) = n) (hp : PutOf L n M) : Thr l D C i (k + 1) M := ⟨fun m hm => hp.old (h.1 m hm), fun i' k' h1 h2 => by
  by_cases hk : i' = i ∧ k' = k
  · rw [hk.1, hk.2, e]; exact hp.new
  · exact hp.old (h.2 i' k' h1 (by omega))⟩
theorem Thr.next {l : List Int} {D C L : List Nat} {i k : Nat} (h : Thr l D C i k L) (hk : C.length ≤ k) : Thr l D C (i + 1) 0 L := ⟨h.1, fun i' k' h1 h2 => h.2 i' k' h1 (by omega)⟩
theorem all_sg {l : List Int} (hg : grpB l = true) {P : Nat} (hP : prodI l = (P : Int)) {C D L : List Nat} (hc : Cyc l P C) (h2 : Two l C C.length 0 D) (h3 : Thr l D C D.length 0 L) (hs : Snd l L) (hL : Srt L) : SgList l L := by
  refine ⟨hL, fun m => ⟨fun hm => ⟨hg, hs m hm⟩, fun hm => ?_⟩⟩
  obtain ⟨x, y, z, a, b, c, hx, hy, hz, ha, hb, hcc, e⟩ := sum3 hg hm.2
  obtain ⟨i, hi, ei⟩ := mem_getD ((hc a).2 ⟨x, by omega, ha⟩)
  obtain ⟨j, hj, ej⟩ := mem_getD ((hc b).2 ⟨y, by omega, hb⟩)
  obtain ⟨k, hk, ek⟩ := mem_getD ((hc c).2 ⟨z, by omega, hcc⟩)
  have hab : sumN l a b ∈ D := by
    rcases Nat.le_total j i with hji | hij
    · have := h2 i j hji (.inl hi)
      rwa [ei, ej] at this
    · have := h2 j i hij (.inl hj)
      rw [ei, ej] at this
      rwa [sumN_comm l (grp_pow hg ha.lt) (grp_pow hg hb.lt)]
  obtain ⟨p, hp, ep⟩ := mem_getD hab
  have := h3.2 p k hk (.inl hp)
  rw [ep, ek, e] at this
  exact this
end Go.Proofs.YtfkleihnafeoeaaGreatDoor

namespace Go.Proofs.YtfkleihnafeoeaaGreatDoor
open Go.RowKit
theorem clo_fun2 {l : List Int} (hg : grpB l = true) : ∃ C : Nat → Nat, ∀ a, a < 2 ^ 24 → IsClo l a (C a) := by
  obtain ⟨C, hC⟩ := Classical.skolem.1 (fun a : Nat => show ∃ c, a < 2 ^ 24 → IsClo l a c from by
    by_cases h : a < 2 ^ 24
    · obtain ⟨c, hc⟩ := clo_ex hg h
      exact ⟨c, fun _ => hc⟩
    · exact ⟨0, fun h2 => absurd h2 h⟩)
  exact ⟨C, hC⟩
theorem nodup_sub : ∀ (L M : List Nat), L.Nodup → (∀ x ∈ L, x ∈ M) → L.length ≤ M.length
  | [], _, _, _ => Nat.zero_le _
  | a :: r, M, hn, h => by
    have ha := h a (by simp)
    have h1 := nodup_sub r (M.erase a) (List.nodup_cons.1 hn).2 (fun x hx => (List.mem_erase_of_ne (fun e => (List.nodup_cons.1 hn).1 (by rw [← e]; exact hx))).2 (h x (by simp [hx])))
    have h2 := List.length_erase_of_mem ha
    have h3 := List.length_pos_of_mem ha
    simp only [List.length_cons]
    omega
/-- At most so many subgroups. -/
theorem sg_len {l : List Int} {L : List Nat} (h : SgList l L) : L.length ≤ 13824 := by
  cases hg : grpB l with
  | false =>
    obtain rfl : L = [] := by
      apply List.eq_nil_iff_forall_not_mem.2
      intro m hm
      have := ((h.2 m).1 hm).1
      rw [hg] at this
      cases this
    simp
  | true =>
    obtain ⟨C, hC⟩ := clo_fun2 hg
    have hP := (ords_grp hg).prod
    have h1 := nodup_sub L ((List.range 13824).map fun i => sumN l (sumN l (C (2 ^ (i / 576))) (C (2 ^ (i / 24 % 24)))) (C (2 ^ (i % 24)))) (h.1.imp fun h => Nat.ne_of_lt h) (fun s hs => by
      obtain ⟨x, y, z, a, b, c, hx, hy, hz, ha, hb, hc, he⟩ := sum3 hg ((h.2 s).1 hs).2
      have x24 : x < 24 := by omega
      have y24 : y < 24 := by omega
      have z24 : z < 24 := by omega
      have p24 : ∀ k, k < 24 → 2 ^ k < 2 ^ 24 := fun k hk => Nat.pow_lt_pow_right (by decide) hk
      refine List.mem_map.2 ⟨x * 576 + y * 24 + z, List.mem_range.2 (by omega), ?_⟩
      have e1 : (x * 576 + y * 24 + z) / 576 = x := by omega
      have e2 : (x * 576 + y * 24 + z) / 24 % 24 = y := by omega
      have e3 : (x * 576 + y * 24 + z) % 24 = z := by omega
      show sumN l (sumN l (C (2 ^ ((x * 576 + y * 24 + z) / 576))) (C (2 ^ ((x * 576 + y * 24 + z) / 24 % 24)))) (C (2 ^ ((x * 576 + y * 24 + z) % 24))) = s
      rw [e1, e2, e3, (hC _ (p24 x x24)).one ha, (hC _ (p24 y y24)).one hb, (hC _ (p24 z z24)).one hc, he])
    rwa [List.length_map, List.length_range] at h1
theorem sg_ex (l : List Int) : ∃ L, SgList l L := by
  refine ⟨(List.range (2 ^ (prodI l).toNat)).filter fun m => @decide (grpB l = true ∧ IsSg l m) (Classical.propDecidable _), List.pairwise_lt_range.filter _, fun m => ?_⟩
  rw [List.mem_filter, List.mem_range]
  simp only [decide_eq_true_eq]
  exact ⟨fun h => h.2, fun h => ⟨h.2.1, h⟩⟩
end Go.Proofs.YtfkleihnafeoeaaGreatDoor

namespace Go.Proofs.YtfkleihnafeoeaaGreatDoor
open Go.RowKit
set_option maxRecDepth 1000000
/-- The cursor in block C, the result's variable in block w.heap.size, the drawn group's row above. -/
structure MidC (w w3 : World) (C : Nat) (a : Option Addr) (len cap : Nat) (au : Option Addr) (cu : Nat) (l : List Int) : Prop where
  cur : CurAt w3 C a len cap
  dat : DataAt w3 C a len
  res : w3.heap[w.heap.size]? = some (.cells #[.slice none 0 0] 26 (0, 0))
  own : w3.ownsRow (w.heap.size + 1) 3 1 (.slice au l.length cu) l.length (l.map (Value.int .i64))
  few : l.length ≤ 4
  gr : w.grownBy w3 (some C)
  lt : w.heap.size + 1 ≤ w3.heap.size
  cw : C < w.heap.size
section
variable {w w3 w4 : World} {C : Nat} {a : Option Addr} {len cap : Nat} {au : Option Addr} {cu : Nat} {l : List Int}
theorem MidC.grown (m : MidC w w3 C a len cap au cu l) (hc : CurAt w4 C a len cap) (hg : w3.grownBy w4 (some C)) : MidC w w4 C a len cap au cu l :=
  have hlt := m.lt
  have hcw := m.cw
  ⟨hc, m.dat.grown hg, (hg.block _ (by omega) (by simp; omega)).trans m.res, m.own.kept hg (.inr fun e => by have := (m.own.lt _ e).1; omega), m.few, grownC_trans m.gr hg, Nat.le_trans m.lt hg.size, m.cw⟩
theorem MidC.below (m : MidC w w3 C a len cap au cu l) (hb : Below w3.heap.size w3 w4) : MidC w w4 C a len cap au cu l :=
  m.grown (m.cur.other (hb.block _ (by have := m.lt; have := m.cw; omega))) (below_grown hb _)
theorem MidC.drew (m : MidC w w3 C a len cap au cu l) : MidC w w3.drew C a len cap au cu l :=
  m.grown m.cur ⟨rfl, rfl, rfl, Nat.le_refl _, fun _ _ _ => rfl⟩
theorem MidC.alloc (m : MidC w w3 C a len cap au cu l) (c : Array Value) (t : TypeId) : MidC w (w3.alloc (.cells c t)) C a len cap au cu l :=
  m.below (Joins.below_alloc1 _ _)
theorem MidC.ints (m : MidC w w3 C a len cap au cu l) : Ints w3 au l := own_ints' rfl m.own
theorem MidC.apart (m : MidC w w3 C a len cap au cu l) : ∀ x, au = some x → x.block ≠ C := fun x e h => by
  subst e
  have h1 := (m.own.lt x.block (by simp [Value.ownBlock])).1
  have h2 := m.cw
  omega
theorem MidC.cells (m : MidC w w3 C a len cap au cu l) : w3.cell? ⟨w.heap.size, 0, none⟩ = some (.slice none 0 0) ∧ w3.frozen? ⟨w.heap.size, 0, none⟩ = false := one_cell m.res
theorem MidC.finish (m : MidC w w3 C a len cap au cu l) :
    (w3.setCell ⟨w.heap.size, 0, none⟩ (.slice au l.length cu)).ownsRow w.heap.size 3 1 (.slice au l.length cu) l.length (l.map (Value.int .i64)) ∧ CurAt (w3.setCell ⟨w.heap.size, 0, none⟩ (.slice au l.length cu)) C a len cap ∧ w.grownBy (w3.setCell ⟨w.heap.size, 0, none⟩ (.slice au l.length cu)) (some C) :=
  have hcw := m.cw
  ⟨ownsRow_lower (ownsRow_setCell_below (a := ⟨w.heap.size, 0, none⟩) m.own (by show w.heap.size < _; omega) _) (by omega), m.cur.other (heap_setCell_other _ _ _ _ (fun e => by simp at e; omega)), grown_newset m.gr (Nat.le_refl _) _⟩
end
/-- What a function that draws a group with a number leaves. -/
def DrawnC (w : World) (C : Nat) (a : Option Addr) (len cap : Nat) (e : Ending) (w' : World) : Prop :=
  ∃ (u : Value) (l : List Int) (x : Int), e = .returned (.tuple #[.agg #[u], .int .i64 x]) ∧ -9223372036854775808 ≤ x ∧ x ≤ 9223372036854775807 ∧ w'.ownsRow w.heap.size 3 1 u l.length (l.map (Value.int .i64)) ∧ l.length ≤ 4 ∧ CurAt w' C a len cap ∧ w.grownBy w' (some C)
theorem midC_of {w w2 : World} {C : Nat} {a : Option Addr} {len cap : Nat} {u : Value} {l : List Int} (hC : C < w.heap.size) (hd : DataAt w C a len)
    (ho : w2.ownsRow (w.alloc nilG).heap.size 3 1 u l.length (l.map (Value.int .i64))) (hl : l.length ≤ 4) (hc : CurAt w2 C a len cap) (hg : (w.alloc nilG).grownBy w2 (some C)) :
    ∃ au cu, u = .slice au l.length cu ∧ MidC w w2 C a len cap au cu l := by
  obtain ⟨au, cu, rfl⟩ := own_slice' rfl ho
  have e : (w.alloc nilG).heap.size = w.heap.size + 1 := by simp
  rw [e] at ho
  have h0 : w.grownBy w2 (some C) := grownC_trans (World.grownBy_alloc w nilG (some C)) hg
  refine ⟨au, cu, rfl, hc, hd.grown h0, ?_, ho, hl, h0, by have := hg.size; omega, hC⟩
  rw [hg.block _ (by omega) (by simp; omega)]
  exact heap_alloc_new w nilG
theorem cell_other {w : World} {g b k : Nat} {v : Value} (h : g ≠ b) : (w.setCell ⟨b, 0, none⟩ v).cell? ⟨g, k, none⟩ = w.cell? ⟨g, k, none⟩ := by
  unfold World.cell?
  rw [heap_setCell_other w ⟨b, 0, none⟩ g v (fun e => h (by simpa using e))]
theorem sg_pos {l : List Int} (hg : grpB l = true) {L : List Nat} (h : SgList l L) : 0 < L.length := by
  have h1 := sg_one hg
  have hs : IsSg l 1 := ⟨h1.lt, by
    refine ⟨h1.keeps.1, fun x y hx hy => ?_⟩
    have ex : x = 0 := by
      rcases Nat.eq_zero_or_pos x with h0 | h0
      · exact h0
      · rw [Nat.testBit_one_eq_true_iff_self_eq_zero] at hx; exact hx
    have ey : y = 0 := by
      rcases Nat.eq_zero_or_pos y with h0 | h0
      · exact h0
      · rw [Nat.testBit_one_eq_true_iff_self_eq_zero] at hy; exact hy
    subst ex ey
    have hP := (ords_grp hg).prod
    rw [show (((0 : Nat) : Nat) : Int) = 0 from rfl, addN_zero (ords_grp hg) (by omega) (by omega)]
    simp⟩
  exact List.length_pos_of_mem ((h.2 1).2 ⟨hg, hs⟩)
end Go.Proofs.YtfkleihnafeoeaaGreatDoor

namespace Go.Proofs.YtfkleihnafeoeaaGreatDoor
open Go.RowKit
set_option maxRecDepth 1000000
/-- A drawn group, in the results. -/
def DGrp (w : World) (u : Value) (l : List Int) (w' : World) : Prop := w'.ownsRow w.heap.size 3 1 u l.length (l.map (Value.int .i64)) ∧ l.length ≤ 4 ∧ Below w.heap.size w w'
def DrawnGI (w : World) (e : Ending) (w' : World) : Prop := ∃ (u : Value) (l : List Int) (x : Int), e = .returned (.tuple #[.agg #[u], .int .i64 x]) ∧ -9223372036854775808 ≤ x ∧ x ≤ 9223372036854775807 ∧ DGrp w u l w'
set_option maxHeartbeats 4000000 in
theorem l3One_any (w : World) (a : Option Addr) (len cap : Nat) (hlen : len ≤ 1048576) (hd : CodeIn w a len) :
    Calls Tryz.prog 48 #[.slice a len cap] w (DrawnGI w) := by
  have HN := Lib.hid (new_at w a len cap hlen hd)
  clear hd
  go_enter Tryz.func48, Tryz.ntmps48
  go_wp2_with (first
    | (go_at_call 49; refine (l2Any_any _ _ a len cap hlen HC1.out HD1.out).mono ?_; rintro e w2 ⟨u, l, rfl, ho, hl, hcur, hg⟩; obtain ⟨au, cu, rfl, m2⟩ := mid_of HD1.out HB1.out HC1.out ho hl hcur hg; have M2 := Lib.hid m2; clear ho hl hcur hg m2; have M3 := Lib.hid (M2.out.alloc #[.slice au l.length cu] 26); have g3 := newC w2 (.slice au l.length cu) 26 (n := w2.heap.size) rfl; have G2 := Lib.hid M2.out.lt)
    | (go_at_call 50; refine HN.out.mono ?_; rintro e w1 ⟨rfl, hcur, hda, hbel⟩; have HC1 := Lib.hid hcur; have HD1 := Lib.hid hda; have HB1 := Lib.hid hbel; clear hcur hda hbel))
  have F3 := Lib.hid (l3Set_any _ _ a len cap l au l.length cu rfl (by have := M3.out.few; omega) M3.out.drew.ints hlen M3.out.drew.cur M3.out.drew.dat)
  go_region_with (go_at_call 74; refine F3.out.mono ?_; rintro e w4 ⟨x, rfl, hx0, hx1, hcur, hg⟩; have M4 := Lib.hid (M3.out.drew.grown hcur hg); have g4 := hg.cell g3 (by have := G2.out; simp; omega); have c4 := M4.out.cells.1; have f4 := M4.out.cells.2; clear hcur hg)
  all_goals
    have c5 := World.cell?_setCell_same w4 ⟨w.heap.size, 0, none⟩ (.slice au l.length cu) c4
    go_wp2
    refine bodyPost_ret (v := .tuple #[.agg #[.slice au l.length cu], .int .i64 x]) (by simp [results, Tryz.results48, go_sem, c5]) rfl ?_
    exact ⟨_, l, x, rfl, hx0, hx1, M4.out.finish.1, M4.out.few, M4.out.finish.2⟩
end Go.Proofs.YtfkleihnafeoeaaGreatDoor

namespace Go.Proofs.YtfkleihnafeoeaaGreatDoor
open Go.RowKit
set_option maxRecDepth 1000000
/-- A result's variable, the drawn group in another one. -/
theorem hand_on {w w1 : World} {u : Value} {l : List Int} (hb : Below w.heap.size w w1) (h : w1.ownsRow (w.heap.size + 1) 3 1 u l.length (l.map (Value.int .i64))) :
    (w1.setCell ⟨w.heap.size, 0, none⟩ u).ownsRow w.heap.size 3 1 u l.length (l.map (Value.int .i64)) ∧ Below w.heap.size w (w1.setCell ⟨w.heap.size, 0, none⟩ u) :=
  ⟨ownsRow_lower (ownsRow_setCell_below (a := ⟨w.heap.size, 0, none⟩) h (by show w.heap.size < _; omega) _) (by omega), below_newset hb (Nat.le_refl _) _⟩
theorem one_at (w : World) (a : Option Addr) (len cap : Nat) (hlen : len ≤ 1048576) (hd : CodeIn w a len) :
    Calls Tryz.prog 48 #[.slice a len cap] (w.alloc nilG) fun e w1 => ∃ (u : Value) (l : List Int) (x : Int), e = .returned (.tuple #[.agg #[u], .int .i64 x]) ∧ -9223372036854775808 ≤ x ∧ x ≤ 9223372036854775807 ∧ w1.ownsRow (w.heap.size + 1) 3 1 u l.length (l.map (Value.int .i64)) ∧ l.length ≤ 4 ∧ Below (w.heap.size + 1) (w.alloc nilG) w1 := by
  have h := l3One_any (w.alloc nilG) a len cap hlen (hd.below (Joins.below_alloc1 w nilG))
  have e : (w.alloc nilG).heap.size = w.heap.size + 1 := by simp
  unfold DrawnGI DGrp at h
  rw [e] at h
  exact h
end Go.Proofs.YtfkleihnafeoeaaGreatDoor

namespace Go.Proofs.YtfkleihnafeoeaaGreatDoor
open Go.RowKit
set_option maxRecDepth 1000000
theorem big_no (w : World) (a : Option Addr) (len cap : Nat) (h : len ≤ 1048576) :
    Calls Tryz.prog 4 #[.slice a len cap] w fun e w' => e = .returned (.bool false) ∧ w = w' := by
  have h1 : ¬ (1048576 : Int) < (len : Int) := by omega
  go_enter Tryz.func4, Tryz.ntmps4
  go_wp2
  go_ret
  exact ⟨by first | rfl | (simp; done) | (simp; omega), rfl⟩
theorem big_yes (w : World) (a : Option Addr) (len cap : Nat) (h : 1048576 < len) :
    Calls Tryz.prog 4 #[.slice a len cap] w fun e w' => e = .returned (.bool true) ∧ w = w' := by
  have h1 : (1048576 : Int) < (len : Int) := by omega
  go_enter Tryz.func4, Tryz.ntmps4
  go_wp2
  go_ret
  exact ⟨by first | rfl | (simp; done) | (simp; omega), rfl⟩
set_option maxHeartbeats 4000000 in
/-- Two readings of one list are the same. -/
theorem sameInts_same (w : World) (a b : Option Addr) (p : List Int) (n ca cb : Nat) (hn : n = p.length) (hm : n ≤ 1048576) (hi : Ints w a p) (hj : Ints w b p) :
    Calls Tryz.prog 10 #[.slice a n ca, .slice b n cb] w fun e w' => e = .returned (.bool true) ∧ Below w.heap.size w w' := by
  have HI := Lib.hid hi
  have HJ := Lib.hid hj
  have HN := Lib.hid hn
  clear hi hj hn
  have mixed : Tryz.prog.follows .mixedOrders = true := by rfl
  go_enter Tryz.func10, Tryz.ntmps10
  go_wp2
  go_loopw [5] (fun i wr => ∃ k : Nat, i = .int .i64 k ∧ k ≤ n ∧ Below w.heap.size w wr) (fun i _ => n - (intOf i).toNat)
  case atStart => exact ⟨0, rfl, by omega, Below.refl _ _⟩
  case round =>
    obtain ⟨k, rfl, h1, hbel⟩ := hrel
    by_cases hk : k < n
    · have hkl : k < p.length := by have := HN.out; omega
      have HBL := Lib.hid hbel
      have r1 : ∃ ba oa, a = some ⟨ba, oa, none⟩ ∧ ∀ q, (wr.drewN q).cell? ⟨ba, oa + k, none⟩ = some (.int .i64 (p.getD k 0)) := by
        rcases HI.out with h0 | ⟨ba, oa, ha, hbl, hc⟩
        · rw [h0] at hkl; simp at hkl
        · exact ⟨ba, oa, ha, fun q => by simpa using keepC hbel hbl (hc k hkl)⟩
      have r2 : ∃ bb ob, b = some ⟨bb, ob, none⟩ ∧ ∀ q, (wr.drewN q).cell? ⟨bb, ob + k, none⟩ = some (.int .i64 (p.getD k 0)) := by
        rcases HJ.out with h0 | ⟨ba, oa, ha, hbl, hc⟩
        · rw [h0] at hkl; simp at hkl
        · exact ⟨ba, oa, ha, fun q => by simpa using keepC hbel hbl (hc k hkl)⟩
      obtain ⟨ba, oa, rfl, la⟩ := r1
      obtain ⟨bb, ob, rfl, lb⟩ := r2
      obtain ⟨x, hx⟩ : ∃ x, p.getD k 0 = x := ⟨_, rfl⟩
      rw [hx] at la lb
      have ea : ((k : Int)).toNat = k := by omega
      have pa : (0 : Int) ≤ (k : Int) := by omega
      have pb : (k : Int) < (n : Int) := by omega
      clear hx hbel hkl
      go_wp2_with fail
      go_quiet_o (fail)
      clear la lb ea
      go_wp2
      go_roundw
      case rel => exact ⟨k + 1, by go_num, by omega, ⟨HBL.out.os, HBL.out.tape, HBL.out.output, HBL.out.size, HBL.out.block⟩⟩
      case measure => simp [intOf]; omega
    · obtain rfl : k = n := by omega
      have HBL := Lib.hid hbel
      clear hbel
      go_wp2
      go_ret
      exact ⟨rfl, HBL.out⟩
end Go.Proofs.YtfkleihnafeoeaaGreatDoor

namespace Go.Proofs.YtfkleihnafeoeaaGreatDoor
open Go.RowKit
set_option maxRecDepth 1000000
end Go.Proofs.YtfkleihnafeoeaaGreatDoor

namespace Go.Proofs.YtfkleihnafeoeaaGreatDoor
open Go.RowKit
set_option maxRecDepth 1000000
set_option maxHeartbeats 4000000 in
theorem l10Prime_any (w : World) (C : Nat) (a : Option Addr) (len cap : Nat) (hlen : len ≤ 1048576) (hc : CurAt w C a len cap) (hd : DataAt w C a len) :
    Calls Tryz.prog 78 #[.pointer (some ⟨C, 0, none⟩)] w fun e w' => ∃ (u : Value) (l : List Int), e = .returned (.agg #[u]) ∧ w'.ownsRow w.heap.size 3 1 u l.length (l.map (Value.int .i64)) ∧ l.length ≤ 4 ∧ CurAt w' C a len cap ∧ w.grownBy w' (some C) := by
  have HC := Lib.hid hc
  have HD := Lib.hid hd
  have hCw : C < w.heap.size := hc.lt
  have HG0 := Lib.hid (World.grownBy_alloc w (.cells #[.slice none 0 0] 26) (some C))
  have HCA := Lib.hid (HC.out.other ((World.grownBy_alloc w (.cells #[.slice none 0 0] 26) none).block C hCw (by simp)))
  have HDA := Lib.hid (HD.out.grown HG0.out)
  have R0 : Hid ((w.alloc (.cells #[.slice none 0 0] 26)).heap[w.heap.size]? = some (.cells #[.slice none 0 0] 26 (0, 0))) := Lib.hid (heap_alloc_new w _)
  clear hc hd
  go_enter Tryz.func78, Tryz.ntmps78
  go_wp2_with (fail)
  refine (once_any _ C a len cap 8 hlen HCA.out HDA.out (by decide) (by decide)).mono ?_
  rintro e w3 ⟨bb, rfl, hcur, hg⟩
  have hsz3 : w.heap.size < w3.heap.size := by have := hg.size; simp at this; omega
  have hR3 := (hg.block _ (by simp) (by simp; omega)).trans R0.out
  obtain ⟨c1, f1⟩ := one_cell hR3
  have hC3 : C < w3.heap.size := by omega
  have hG3 := grownC_trans HG0.out hg
  have HCU := Lib.hid hcur
  have HW3 := Lib.hid hG3
  have R3 := Lib.hid hR3
  have HD3 := Lib.hid (HD.out.grown hG3)
  clear hcur hg hG3 hR3 HCA HDA HG0 R0
  cases bb with
  | true =>
    have HDR := Lib.hid (l2Any_any w3 C a len cap hlen HCU.out HD3.out)
    go_wp2_with (go_at_call 49; refine HDR.out.mono ?_; rintro e w4 ⟨u, l, rfl, ho4, hl4, hcur4, hg4⟩; obtain ⟨ao, n', cap', rfl⟩ := own_form ho4; have HO4 := Lib.hid ho4; have HL4 := Lib.hid hl4; have HC4 := Lib.hid hcur4; have HG4 := Lib.hid hg4; obtain ⟨c4, f4⟩ := one_cell ((hg4.block _ (by omega) (by simp; omega)).trans R3.out); clear ho4 hl4 hcur4 hg4)
    have hC4 : C < w4.heap.size := by have := HG4.out.size; omega
    have E := Lib.hid (group_end2 hCw HC4.out hC4 (grownC_trans HW3.out HG4.out) hsz3 ⟨rfl, rfl, rfl, Nat.le_refl _, fun _ _ _ => rfl⟩ HO4.out)
    have c2 := World.cell?_setCell_same w4 ⟨w.heap.size, 0, none⟩ (.slice ao n' cap') c4
    try go_wp2
    refine bodyPost_ret (v := .agg #[.slice ao n' cap']) (by simp [results, Tryz.results78, go_sem, c2]) rfl ?_
    exact ⟨_, l, rfl, E.out.1, HL4.out, E.out.2.1, E.out.2.2⟩
  | false =>
    go_wp2_with (fail)
    refine (pick_any _ C a len cap w3.heap.size 6 6 hlen ?h1 ?h2 (by omega) (by omega) ?h3 ?h4).mono ?_
    case h1 => exact HCU.out.other (heap_alloc_old w3 _ hC3)
    case h2 => exact HD3.out.grown (World.grownBy_alloc w3 _ _)
    case h3 => omega
    case h4 =>
      intro i hi
      have : ∃ z : Int, -9223372036854775808 ≤ z ∧ z ≤ 9223372036854775807 ∧ (#[.int .i64 2, .int .i64 3, .int .i64 5, .int .i64 7, .int .i64 11, .int .i64 13] : Array Value)[i]? = some (.int .i64 z) := by
        match i, hi with
        | 0, _ => exact ⟨2, by decide, by decide, rfl⟩
        | 1, _ => exact ⟨3, by decide, by decide, rfl⟩
        | 2, _ => exact ⟨5, by decide, by decide, rfl⟩
        | 3, _ => exact ⟨7, by decide, by decide, rfl⟩
        | 4, _ => exact ⟨11, by decide, by decide, rfl⟩
        | 5, _ => exact ⟨13, by decide, by decide, rfl⟩
      obtain ⟨z, hz0, hz1, hz⟩ := this
      exact ⟨z, hz0, hz1, (World.cell?_alloc_at _ _ _ _ rfl).trans hz⟩
    rintro e w4 ⟨z, rfl, hz0, hz1, hcur4, hg4⟩
    have hs4 : w3.heap.size + 1 ≤ w4.heap.size := by simpa using hg4.size
    have hsz4 : w.heap.size < w4.heap.size := by omega
    have HW4 := grownC_trans (grownC_trans HW3.out (World.grownBy_alloc w3 _ _)) hg4
    obtain ⟨c4, f4⟩ := one_cell ((hg4.block _ (by simp; omega) (by simp; omega)).trans ((heap_alloc_old w3 _ hsz3).trans R3.out))
    have E := Lib.hid (group_end hCw hcur4 (by omega) HW4 hsz4 (World.grownBy_alloc w4 (.cells #[.int .i64 z] 3) none) (World.ownsRow_lit w4 #[.int .i64 z] 1 (Nat.le_refl _) (by decide) rfl))
    have c4' : (w4.alloc (.cells #[.int .i64 z] 3)).cell? ⟨w.heap.size, 0, none⟩ = some (.slice none 0 0) := (World.cell?_alloc_past _ _ _ hsz4).trans c4
    have f4' : (w4.alloc (.cells #[.int .i64 z] 3)).frozen? ⟨w.heap.size, 0, none⟩ = false := (frozen?_alloc_cells _ _ _ _).trans f4
    rw [World.setCell_alloc_past (.cells #[.int .i64 z] 3) w.heap.size 0 (.slice (some ⟨w4.heap.size, 0, none⟩) 1 1) hsz4] at E
    have c2 : ((w4.setCell ⟨w.heap.size, 0, none⟩ (.slice (some ⟨w4.heap.size, 0, none⟩) 1 1)).alloc (.cells #[.int .i64 z] 3)).cell? ⟨w.heap.size, 0, none⟩ = some (.slice (some ⟨w4.heap.size, 0, none⟩) 1 1) := (World.cell?_alloc_past _ _ _ (by simpa using hsz4)).trans (World.cell?_setCell_same _ _ _ c4)
    clear HW4 hg4 hcur4 c1 f1
    go_wp2
    refine bodyPost_ret (v := .agg #[.slice (some ⟨w4.heap.size, 0, none⟩) 1 1]) (by simp [results, Tryz.results78, go_sem, c2]) rfl ?_
    exact ⟨_, [z], rfl, E.out.1, by simp, E.out.2.1, E.out.2.2⟩
end Go.Proofs.YtfkleihnafeoeaaGreatDoor

namespace Go.Proofs.YtfkleihnafeoeaaGreatDoor
open Go.RowKit
set_option maxRecDepth 1000000
theorem prgE_fit (l : List Int) (x d n : Int) : -1 ≤ prgE l x d n ∧ prgE l x d n ≤ 16777215 := by
  unfold prgE
  split
  · next h =>
    simp only [Bool.and_eq_true] at h
    obtain ⟨hg, h0, h1, _⟩ := isE_true h.1.1
    have h2 := prg_lt hg (x := x.toNat) (d := d.toNat) (by omega) n.toNat
    have h3 := (ords_grp hg).prod
    have h4 := pow_le24 (k := (prodI l).toNat) (by omega)
    omega
  · omega
/-- What a function that draws a group with two sets leaves. -/
def DrawnC2 (w : World) (C : Nat) (a : Option Addr) (len cap : Nat) (e : Ending) (w' : World) : Prop :=
  ∃ (u : Value) (l : List Int) (x y : Int), e = .returned (.tuple #[.agg #[u], .int .i64 x, .int .i64 y]) ∧ -9223372036854775808 ≤ x ∧ x ≤ 9223372036854775807 ∧ -9223372036854775808 ≤ y ∧ y ≤ 9223372036854775807 ∧ w'.ownsRow w.heap.size 3 1 u l.length (l.map (Value.int .i64)) ∧ l.length ≤ 4 ∧ CurAt w' C a len cap ∧ w.grownBy w' (some C)
set_option maxHeartbeats 8000000 in
theorem l10Set_any (w : World) (C : Nat) (a : Option Addr) (len cap : Nat) (hlen : len ≤ 1048576) (hc : CurAt w C a len cap) (hd : DataAt w C a len) :
    Calls Tryz.prog 60 #[.pointer (some ⟨C, 0, none⟩)] w (DrawnC2 w C a len cap) := by
  have HC := Lib.hid hc
  have HD := Lib.hid hd
  have hCw : C < w.heap.size := hc.lt
  have HG0 := Lib.hid (World.grownBy_alloc w nilG (some C))
  have HCA := Lib.hid (HC.out.other (heap_alloc_old w nilG hCw))
  have HDA := Lib.hid (HD.out.grown HG0.out)
  have HDR := Lib.hid (l10Prime_any (w.alloc nilG) C a len cap hlen HCA.out HDA.out)
  clear hc hd
  go_enter Tryz.func60, Tryz.ntmps60
  go_upto_region 2 with (go_at_call 78; refine HDR.out.mono ?_; rintro e w2 ⟨u, l, rfl, ho, hl, hcur, hg⟩; obtain ⟨au, cu, rfl, m2⟩ := midC_of hCw HD.out ho hl hcur hg; have M2 := Lib.hid m2; clear ho hl hcur hg m2; have M3 := Lib.hid (M2.out.alloc #[.slice au l.length cu] 26); have g3 := newC w2 (.slice au l.length cu) 26 (n := w2.heap.size) rfl; have G2 := Lib.hid M2.out.lt; have HGC : Hid (¬ w2.heap.size = C) := Lib.hid (by have := G2.out; omega); have HSM : Hid (l.length ≤ 9223372036854775807) := Lib.hid (by have := M3.out.few; omega))
  go_cut [6] (fun s6 wx => ∃ X : Int, s6 = .int .i64 X ∧ 1 ≤ X ∧ X ≤ 24 ∧ Hid (MidC w wx C a len cap au cu l) ∧ Hid (wx.cell? ⟨w2.heap.size, 0, none⟩ = some (.slice au l.length cu)))
  case first =>
    go_wp2_with (go_at_call 59; have HL := Lib.hid (ordN_le l); refine (sOrderOf _ au l l.length cu rfl HSM.out M3.out.ints).mono ?_; obtain ⟨N, HNN⟩ : ∃ N, Hid (ordN l = N) := ⟨_, Lib.hid rfl⟩; rw [HNN.out] at HL ⊢; rintro e w4 ⟨rfl, hb⟩; have M4 := Lib.hid (M3.out.below hb); have g4 := keepC hb (by simp) g3; clear hb)
    all_goals
      have hN := HL.out
      go_meet
      exact ⟨_, rfl, by omega, by omega, M4, Lib.hid g4⟩
  case rest =>
    obtain ⟨M, rfl, hM1, hM2, M4, G4⟩ := hcut
    have g4 := G4.out
    clear G4 HDR HCA HDA HG0 M2 M3 g3
    have hMp : 0 < M := by omega
    have hMb : M ≤ 256 := by omega
    go_upto_region 4 with (go_at_call 76; refine (below_small _ C a len cap M hlen M4.out.cur M4.out.dat hMp hMb).mono ?_; rintro e w5 ⟨d, rfl, hd0, hd1, hcur, hg⟩; have M5 := Lib.hid (M4.out.grown hcur hg); have g5 := hg.cell g4 (by simpa using HGC.out); clear hcur hg hd0 hd1)
    go_cut [8] (fun s8 wx => ∃ X : Int, s8 = .int .i64 X ∧ -1 ≤ X ∧ X ≤ 16777215 ∧ Hid (MidC w wx C a len cap au cu l) ∧ Hid (wx.cell? ⟨w2.heap.size, 0, none⟩ = some (.slice au l.length cu)))
    case first =>
     as_aux_lemma =>
      have F5 := Lib.hid (below_small _ C a len cap M hlen M5.out.drew.cur M5.out.drew.dat hMp hMb)
      by_cases hm6 : M + 1 < 6
      · have hKp : 0 < (M + 1) := by omega
        have hKb : (M + 1) ≤ 256 := by omega
        have hwr : IntKind.i64.wrap (M + 1) = M + 1 := IntWalk.i64_in _ (by omega)
        go_wp2
        go_region_held3 (fun W => W.cell? ⟨w2.heap.size, 0, none⟩ = some (.slice au l.length cu)) (first | exact g8 | exact g7 | exact g6 | exact g5)
          (first
          | (go_at_call 23; refine (sPrgE _ au l l.length cu x5 d n5 rfl HSM.out M7.out.ints).mono ?_; rintro e w8 ⟨rfl, hb⟩; have M8 := Lib.hid (M7.out.below hb); have g8 := keepD hb g7; clear hb)
          | (have hx_ := M6; clear hx_; go_at_call 76; refine (below_small _ C a len cap (M + 1) hlen M6.out.cur M6.out.dat hKp hKb).mono ?_; rintro e w7 ⟨n5, rfl, hn0, hn1, hcur, hg⟩; have M7 := Lib.hid (M6.out.grown hcur hg); have g7 := hg.cell g6 (by simpa using HGC.out); clear hcur hg hn0 hn1)
          | (go_at_call 76; refine F5.out.mono ?_; rintro e w6 ⟨x5, rfl, hx0, hx1, hcur, hg⟩; have M6 := Lib.hid (M5.out.drew.grown hcur hg); have g6 := hg.cell g5 (by simpa using HGC.out); clear hcur hg hx0 hx1))
        all_goals
          clear hwr
          have hfit := prgE_fit l x5 d n5
          go_wp2_with fail
          go_meet
          exact ⟨_, rfl, by omega, by omega, M8, Lib.hid g8⟩
      · have hKp : 0 < (6 : Int) := by omega
        have hKb : (6 : Int) ≤ 256 := by omega
        have hm7 : (M + 1 < 6) = False := eq_false hm6
        clear hm6
        have hwr : IntKind.i64.wrap (M + 1) = M + 1 := IntWalk.i64_in _ (by omega)
        go_wp2
        go_region_held3 (fun W => W.cell? ⟨w2.heap.size, 0, none⟩ = some (.slice au l.length cu)) (first | exact g8 | exact g7 | exact g6 | exact g5)
          (first
          | (go_at_call 23; refine (sPrgE _ au l l.length cu x5 d n5 rfl HSM.out M7.out.ints).mono ?_; rintro e w8 ⟨rfl, hb⟩; have M8 := Lib.hid (M7.out.below hb); have g8 := keepD hb g7; clear hb)
          | (have hx_ := M6; clear hx_; go_at_call 76; refine (below_small _ C a len cap (6 : Int) hlen M6.out.cur M6.out.dat hKp hKb).mono ?_; rintro e w7 ⟨n5, rfl, hn0, hn1, hcur, hg⟩; have M7 := Lib.hid (M6.out.grown hcur hg); have g7 := hg.cell g6 (by simpa using HGC.out); clear hcur hg hn0 hn1)
          | (go_at_call 76; refine F5.out.mono ?_; rintro e w6 ⟨x5, rfl, hx0, hx1, hcur, hg⟩; have M6 := Lib.hid (M5.out.drew.grown hcur hg); have g6 := hg.cell g5 (by simpa using HGC.out); clear hcur hg hx0 hx1))
        all_goals
          clear hwr
          have hfit := prgE_fit l x5 d n5
          go_wp2_with fail
          go_meet
          exact ⟨_, rfl, by omega, by omega, M8, Lib.hid g8⟩
    case rest =>
      obtain ⟨X, rfl, hX0, hX1, M10, G10⟩ := hcut
      have g10 := G10.out
      clear G10 M5 g5
      go_upto_region 5 with (fail)
      go_cut [9] (fun s9 wx => ∃ X : Int, s9 = .int .i64 X ∧ -1 ≤ X ∧ X ≤ 16777215 ∧ Hid (MidC w wx C a len cap au cu l) ∧ Hid (wx.cell? ⟨w2.heap.size, 0, none⟩ = some (.slice au l.length cu)))
      case first =>
       as_aux_lemma =>
        have F10 := Lib.hid (below_small _ C a len cap M hlen M10.out.drew.cur M10.out.drew.dat hMp hMb)
        by_cases hm6 : M + 1 < 6
        · have hKp : 0 < (M + 1) := by omega
          have hKb : (M + 1) ≤ 256 := by omega
          have hwr : IntKind.i64.wrap (M + 1) = M + 1 := IntWalk.i64_in _ (by omega)
          go_wp2
          go_region_held3 (fun W => W.cell? ⟨w2.heap.size, 0, none⟩ = some (.slice au l.length cu)) (first | exact g13 | exact g12 | exact g11 | exact g10)
            (first
            | (go_at_call 23; refine (sPrgE _ au l l.length cu x10 d n10 rfl HSM.out M12.out.ints).mono ?_; rintro e w13 ⟨rfl, hb⟩; have M13 := Lib.hid (M12.out.below hb); have g13 := keepD hb g12; clear hb)
            | (have hx_ := M11; clear hx_; go_at_call 76; refine (below_small _ C a len cap (M + 1) hlen M11.out.cur M11.out.dat hKp hKb).mono ?_; rintro e w12 ⟨n10, rfl, hn0, hn1, hcur, hg⟩; have M12 := Lib.hid (M11.out.grown hcur hg); have g12 := hg.cell g11 (by simpa using HGC.out); clear hcur hg hn0 hn1)
            | (go_at_call 76; refine F10.out.mono ?_; rintro e w11 ⟨x10, rfl, hx0, hx1, hcur, hg⟩; have M11 := Lib.hid (M10.out.drew.grown hcur hg); have g11 := hg.cell g10 (by simpa using HGC.out); clear hcur hg hx0 hx1))
          all_goals
            clear hwr
            have hfit := prgE_fit l x10 d n10
            go_wp2_with fail
            go_meet
            exact ⟨_, rfl, by omega, by omega, M13, Lib.hid g13⟩
        · have hKp : 0 < (6 : Int) := by omega
          have hKb : (6 : Int) ≤ 256 := by omega
          have hm7 : (M + 1 < 6) = False := eq_false hm6
          clear hm6
          have hwr : IntKind.i64.wrap (M + 1) = M + 1 := IntWalk.i64_in _ (by omega)
          go_wp2
          go_region_held3 (fun W => W.cell? ⟨w2.heap.size, 0, none⟩ = some (.slice au l.length cu)) (first | exact g13 | exact g12 | exact g11 | exact g10)
            (first
            | (go_at_call 23; refine (sPrgE _ au l l.length cu x10 d n10 rfl HSM.out M12.out.ints).mono ?_; rintro e w13 ⟨rfl, hb⟩; have M13 := Lib.hid (M12.out.below hb); have g13 := keepD hb g12; clear hb)
            | (have hx_ := M11; clear hx_; go_at_call 76; refine (below_small _ C a len cap (6 : Int) hlen M11.out.cur M11.out.dat hKp hKb).mono ?_; rintro e w12 ⟨n10, rfl, hn0, hn1, hcur, hg⟩; have M12 := Lib.hid (M11.out.grown hcur hg); have g12 := hg.cell g11 (by simpa using HGC.out); clear hcur hg hn0 hn1)
            | (go_at_call 76; refine F10.out.mono ?_; rintro e w11 ⟨x10, rfl, hx0, hx1, hcur, hg⟩; have M11 := Lib.hid (M10.out.drew.grown hcur hg); have g11 := hg.cell g10 (by simpa using HGC.out); clear hcur hg hx0 hx1))
          all_goals
            clear hwr
            have hfit := prgE_fit l x10 d n10
            go_wp2_with fail
            go_meet
            exact ⟨_, rfl, by omega, by omega, M13, Lib.hid g13⟩
      case rest =>
        obtain ⟨Y, rfl, hY0, hY1, M20, G20⟩ := hcut
        have g20 := G20.out
        clear G20 M10 g10
        go_upto_if 41 with (go_at_call 79; refine (once_any _ C a len cap 3 hlen M20.out.cur M20.out.dat (by decide) (by decide)).mono ?_; rintro e w21 ⟨b20, rfl, hcur, hg⟩; have M21 := Lib.hid (M20.out.grown hcur hg); have g21 := hg.cell g20 (by simpa using HGC.out); clear hcur hg)
        go_cut [8] (fun s8 wx => ∃ X : Int, s8 = .int .i64 X ∧ -9223372036854775808 ≤ X ∧ X ≤ 9223372036854775807 ∧ Hid (MidC w wx C a len cap au cu l) ∧ Hid (wx.cell? ⟨w2.heap.size, 0, none⟩ = some (.slice au l.length cu)))
        case first =>
         as_aux_lemma =>
          cases b20 with
          | false =>
            go_wp2_with fail
            go_meet
            exact ⟨_, rfl, by omega, by omega, M21, Lib.hid g21⟩
          | true =>
            go_wp2_with (go_at_call 74; refine (l3Set_any _ C a len cap l au l.length cu rfl HSM.out M21.out.ints hlen M21.out.cur M21.out.dat).mono ?_; rintro e w22 ⟨y, rfl, hy0, hy1, hcur, hg⟩; have M22 := Lib.hid (M21.out.grown hcur hg); have g22 := hg.cell g21 (by simpa using HGC.out); clear hcur hg)
            go_meet
            exact ⟨_, rfl, hy0, hy1, M22, Lib.hid g22⟩
        case rest =>
          obtain ⟨P, rfl, hP0, hP1, M30, G30⟩ := hcut
          have g30 := G30.out
          clear G30 M20 g20
          go_upto_if 46 with (go_at_call 79; refine (once_any _ C a len cap 3 hlen M30.out.cur M30.out.dat (by decide) (by decide)).mono ?_; rintro e w31 ⟨b30, rfl, hcur, hg⟩; have M31 := Lib.hid (M30.out.grown hcur hg); have g31 := hg.cell g30 (by simpa using HGC.out); clear hcur hg)
          go_cut [9] (fun s9 wx => ∃ X : Int, s9 = .int .i64 X ∧ -9223372036854775808 ≤ X ∧ X ≤ 9223372036854775807 ∧ Hid (MidC w wx C a len cap au cu l) ∧ Hid (wx.cell? ⟨w2.heap.size, 0, none⟩ = some (.slice au l.length cu)))
          case first =>
           as_aux_lemma =>
            cases b30 with
            | false =>
              go_wp2_with fail
              go_meet
              exact ⟨_, rfl, by omega, by omega, M31, Lib.hid g31⟩
            | true =>
              go_wp2_with (go_at_call 74; refine (l3Set_any _ C a len cap l au l.length cu rfl HSM.out M31.out.ints hlen M31.out.cur M31.out.dat).mono ?_; rintro e w32 ⟨y, rfl, hy0, hy1, hcur, hg⟩; have M32 := Lib.hid (M31.out.grown hcur hg); have g32 := hg.cell g31 (by simpa using HGC.out); clear hcur hg)
              go_meet
              exact ⟨_, rfl, hy0, hy1, M32, Lib.hid g32⟩
          case rest =>
            obtain ⟨Q, rfl, hQ0, hQ1, M40, G40⟩ := hcut
            have g40 := G40.out
            clear G40 M30 g30
            have c40 := M40.out.cells.1
            have f40 := M40.out.cells.2
            have cz := World.cell?_setCell_same wc ⟨w.heap.size, 0, none⟩ (.slice au l.length cu) c40
            go_wp2_with fail
            refine bodyPost_ret (v := .tuple #[.agg #[.slice au l.length cu], .int .i64 P, .int .i64 Q]) (by simp [results, Tryz.results60, go_sem, cz]) rfl ?_
            exact ⟨_, l, P, Q, rfl, hP0, hP1, hQ0, hQ1, M40.out.finish.1, M40.out.few, M40.out.finish.2⟩
end Go.Proofs.YtfkleihnafeoeaaGreatDoor

namespace Go.Proofs.YtfkleihnafeoeaaGreatDoor
open Go.RowKit
set_option maxRecDepth 1000000
set_option maxHeartbeats 4000000 in
theorem l2Two_any (w : World) (a : Option Addr) (len cap : Nat) (hlen : len ≤ 1048576) (hd : CodeIn w a len) :
    Calls Tryz.prog 47 #[.slice a len cap] w fun e w' => ∃ (u : Value) (l : List Int) (x y : Int), e = .returned (.tuple #[.agg #[u], .int .i64 x, .int .i64 y]) ∧ -9223372036854775808 ≤ x ∧ x ≤ 9223372036854775807 ∧ -9223372036854775808 ≤ y ∧ y ≤ 9223372036854775807 ∧ DGrp w u l w' := by
  have HN := Lib.hid (new_at w a len cap hlen hd)
  clear hd
  go_enter Tryz.func47, Tryz.ntmps47
  go_wp2_with (first
    | (go_at_call 73; refine (l2Element_any _ _ a len cap l au l.length cu rfl (by have := M3.out.few; omega) M3.out.ints M3.out.apart hlen M3.out.cur M3.out.dat).mono ?_; rintro e w4 ⟨x, rfl, hx0, hx1, hcur, hg⟩; have M4 := Lib.hid (M3.out.grown hcur hg); have g4 := hg.cell g3 (by have := G2.out; simp; omega); clear hcur hg)
    | (go_at_call 49; refine (l2Any_any _ _ a len cap hlen HC1.out HD1.out).mono ?_; rintro e w2 ⟨u, l, rfl, ho, hl, hcur, hg⟩; obtain ⟨au, cu, rfl, m2⟩ := mid_of HD1.out HB1.out HC1.out ho hl hcur hg; have M2 := Lib.hid m2; clear ho hl hcur hg m2; have M3 := Lib.hid (M2.out.alloc #[.slice au l.length cu] 26); have g3 := newC w2 (.slice au l.length cu) 26 (n := w2.heap.size) rfl; have G2 := Lib.hid M2.out.lt)
    | (go_at_call 50; refine HN.out.mono ?_; rintro e w1 ⟨rfl, hcur, hda, hbel⟩; have HC1 := Lib.hid hcur; have HD1 := Lib.hid hda; have HB1 := Lib.hid hbel; clear hcur hda hbel))
  have F3 := Lib.hid (l2Element_any _ _ a len cap l au l.length cu rfl (by have := M4.out.few; omega) M4.out.drew.ints M4.out.apart hlen M4.out.drew.cur M4.out.drew.dat)
  go_region_with (go_at_call 73; refine F3.out.mono ?_; rintro e w5 ⟨y, rfl, hy0, hy1, hcur, hg⟩; have M5 := Lib.hid (M4.out.drew.grown hcur hg); have g5 := hg.cell g4 (by have := G2.out; simp; omega); have c5 := M5.out.cells.1; have f5 := M5.out.cells.2; clear hcur hg)
  all_goals
    have c6 := World.cell?_setCell_same w5 ⟨w.heap.size, 0, none⟩ (.slice au l.length cu) c5
    go_wp2
    refine bodyPost_ret (v := .tuple #[.agg #[.slice au l.length cu], .int .i64 x, .int .i64 y]) (by simp [results, Tryz.results47, go_sem, c6]) rfl ?_
    exact ⟨_, l, x, y, rfl, hx0, hx1, hy0, hy1, M5.out.finish.1, M5.out.few, M5.out.finish.2⟩
theorem twoE_at (w : World) (a : Option Addr) (len cap : Nat) (hlen : len ≤ 1048576) (hd : CodeIn w a len) :
    Calls Tryz.prog 47 #[.slice a len cap] (w.alloc nilG) fun e w1 => ∃ (u : Value) (l : List Int) (x y : Int), e = .returned (.tuple #[.agg #[u], .int .i64 x, .int .i64 y]) ∧ -9223372036854775808 ≤ x ∧ x ≤ 9223372036854775807 ∧ -9223372036854775808 ≤ y ∧ y ≤ 9223372036854775807 ∧ w1.ownsRow (w.heap.size + 1) 3 1 u l.length (l.map (Value.int .i64)) ∧ l.length ≤ 4 ∧ Below (w.heap.size + 1) (w.alloc nilG) w1 := by
  have h := l2Two_any (w.alloc nilG) a len cap hlen (hd.below (Joins.below_alloc1 w nilG))
  have e : (w.alloc nilG).heap.size = w.heap.size + 1 := by simp
  unfold DGrp at h
  rw [e] at h
  exact h
end Go.Proofs.YtfkleihnafeoeaaGreatDoor

namespace Go.Proofs.YtfkleihnafeoeaaGreatDoor
open Go.RowKit
set_option maxRecDepth 1000000
set_option maxHeartbeats 4000000 in
theorem l10Both_any (w : World) (a : Option Addr) (len cap : Nat) (hlen : len ≤ 1048576) (hd : CodeIn w a len) :
    Calls Tryz.prog 27 #[.slice a len cap] w fun e w' => ∃ (u : Value) (l : List Int) (x y : Int), e = .returned (.tuple #[.agg #[u], .int .i64 x, .int .i64 y]) ∧ -9223372036854775808 ≤ x ∧ x ≤ 9223372036854775807 ∧ -9223372036854775808 ≤ y ∧ y ≤ 9223372036854775807 ∧ DGrp w u l w' := by
  have HN := Lib.hid (new_at w a len cap hlen hd)
  clear hd
  go_enter Tryz.func27, Tryz.ntmps27
  go_wp2_with (first
    | (go_at_call 60; refine (l10Set_any _ _ a len cap hlen HC1.out HD1.out).mono ?_; rintro e w2 ⟨u, l, x, y, rfl, hx0, hx1, hy0, hy1, ho, hl, hcur, hg⟩; obtain ⟨au, cu, rfl, m2⟩ := mid_of HD1.out HB1.out HC1.out ho hl hcur hg; have M2 := Lib.hid m2; clear ho hl hcur hg m2; have M3 := Lib.hid (M2.out.alloc #[.slice au l.length cu] 26); have g3 := newC w2 (.slice au l.length cu) 26 (n := w2.heap.size) rfl; have c3 := M3.out.cells.1; have f3 := M3.out.cells.2)
    | (go_at_call 50; refine HN.out.mono ?_; rintro e w1 ⟨rfl, hcur, hda, hbel⟩; have HC1 := Lib.hid hcur; have HD1 := Lib.hid hda; have HB1 := Lib.hid hbel; clear hcur hda hbel))
  have c4 := World.cell?_setCell_same (w2.alloc (.cells #[.slice au l.length cu] 26)) ⟨w.heap.size, 0, none⟩ (.slice au l.length cu) c3
  refine bodyPost_ret (v := .tuple #[.agg #[.slice au l.length cu], .int .i64 x, .int .i64 y]) (by simp [results, Tryz.results27, go_sem, c4]) rfl ?_
  exact ⟨_, l, x, y, rfl, hx0, hx1, hy0, hy1, M3.out.finish.1, M3.out.few, M3.out.finish.2⟩
theorem both10_at (w : World) (a : Option Addr) (len cap : Nat) (hlen : len ≤ 1048576) (hd : CodeIn w a len) :
    Calls Tryz.prog 27 #[.slice a len cap] (w.alloc nilG) fun e w1 => ∃ (u : Value) (l : List Int) (x y : Int), e = .returned (.tuple #[.agg #[u], .int .i64 x, .int .i64 y]) ∧ -9223372036854775808 ≤ x ∧ x ≤ 9223372036854775807 ∧ -9223372036854775808 ≤ y ∧ y ≤ 9223372036854775807 ∧ w1.ownsRow (w.heap.size + 1) 3 1 u l.length (l.map (Value.int .i64)) ∧ l.length ≤ 4 ∧ Below (w.heap.size + 1) (w.alloc nilG) w1 := by
  have h := l10Both_any (w.alloc nilG) a len cap hlen (hd.below (Joins.below_alloc1 w nilG))
  have e : (w.alloc nilG).heap.size = w.heap.size + 1 := by simp
  unfold DGrp at h
  rw [e] at h
  exact h
set_option maxHeartbeats 4000000 in
theorem dVos_any (w : World) (a : Option Addr) (len cap : Nat) (hlen : len ≤ 1048576) (hd : CodeIn w a len) :
    Calls Tryz.prog 5 #[.slice a len cap] w fun e w' => ∃ (u : Value) (l : List Int) (x y : Int), e = .returned (.tuple #[.agg #[u], .int .i64 x, .int .i64 y]) ∧ -9223372036854775808 ≤ x ∧ x ≤ 9223372036854775807 ∧ -9223372036854775808 ≤ y ∧ y ≤ 9223372036854775807 ∧ DGrp w u l w' := by
  have HN := Lib.hid (both10_at w a len cap hlen hd)
  have R0 := Lib.hid (heap_alloc_new w nilG)
  clear hd
  go_enter Tryz.func5, Tryz.ntmps5
  go_wp2_with (go_at_call 27; refine HN.out.mono ?_; rintro e w1 ⟨u, l, x, y, rfl, hx0, hx1, hy0, hy1, ho, hl, hb⟩; obtain ⟨au, cu, rfl⟩ := own_slice' rfl ho; have HO := Lib.hid ho; have HB := Lib.hid hb; have HL := Lib.hid hl; have g1 := newC w1 (.slice au l.length cu) 26 (n := w1.heap.size) rfl; have hs := (show w.heap.size + 1 ≤ w1.heap.size from by have := hb.size; simpa using this); obtain ⟨c1, f1⟩ := one_cell ((hb.block _ (by omega)).trans R0.out); have c2 : (w1.alloc (.cells #[.slice au l.length cu] 26)).cell? ⟨w.heap.size, 0, none⟩ = some (.slice none 0 0) := (World.cell?_alloc_past _ _ _ (by omega)).trans c1; have f2 := (frozen?_alloc_cells w1 #[.slice au l.length cu] 26 ⟨w.heap.size, 0, none⟩).trans f1; clear ho hl hb)
  have c3 := World.cell?_setCell_same (w1.alloc (.cells #[.slice au l.length cu] 26)) ⟨w.heap.size, 0, none⟩ (.slice au l.length cu) c2
  have HE := Lib.hid (hand_on (w := w) (w1 := w1.alloc (.cells #[.slice au l.length cu] 26)) (((Joins.below_alloc1 w nilG).trans (HB.out.mono (by omega))).trans ((Joins.below_alloc1 w1 _).mono (by omega))) (HO.out.alloc _))
  go_wp2
  refine bodyPost_ret (v := .tuple #[.agg #[.slice au l.length cu], .int .i64 x, .int .i64 y]) (by simp [results, Tryz.results5, go_sem, c3]) rfl ?_
  exact ⟨_, l, x, y, rfl, hx0, hx1, hy0, hy1, HE.out.1, HL.out, HE.out.2⟩
set_option maxHeartbeats 4000000 in
theorem dCom_any (w : World) (a : Option Addr) (len cap : Nat) (hlen : len ≤ 1048576) (hd : CodeIn w a len) :
    Calls Tryz.prog 16 #[.slice a len cap] w fun e w' => ∃ (u : Value) (l : List Int) (x y : Int), e = .returned (.tuple #[.agg #[u], .int .i64 x, .int .i64 y]) ∧ -9223372036854775808 ≤ x ∧ x ≤ 9223372036854775807 ∧ -9223372036854775808 ≤ y ∧ y ≤ 9223372036854775807 ∧ DGrp w u l w' := by
  have HN := Lib.hid (both10_at w a len cap hlen hd)
  have R0 := Lib.hid (heap_alloc_new w nilG)
  clear hd
  go_enter Tryz.func16, Tryz.ntmps16
  go_wp2_with (go_at_call 27; refine HN.out.mono ?_; rintro e w1 ⟨u, l, x, y, rfl, hx0, hx1, hy0, hy1, ho, hl, hb⟩; obtain ⟨au, cu, rfl⟩ := own_slice' rfl ho; have HO := Lib.hid ho; have HB := Lib.hid hb; have HL := Lib.hid hl; have g1 := newC w1 (.slice au l.length cu) 26 (n := w1.heap.size) rfl; have hs := (show w.heap.size + 1 ≤ w1.heap.size from by have := hb.size; simpa using this); obtain ⟨c1, f1⟩ := one_cell ((hb.block _ (by omega)).trans R0.out); have c2 : (w1.alloc (.cells #[.slice au l.length cu] 26)).cell? ⟨w.heap.size, 0, none⟩ = some (.slice none 0 0) := (World.cell?_alloc_past _ _ _ (by omega)).trans c1; have f2 := (frozen?_alloc_cells w1 #[.slice au l.length cu] 26 ⟨w.heap.size, 0, none⟩).trans f1; clear ho hl hb)
  have c3 := World.cell?_setCell_same (w1.alloc (.cells #[.slice au l.length cu] 26)) ⟨w.heap.size, 0, none⟩ (.slice au l.length cu) c2
  have HE := Lib.hid (hand_on (w := w) (w1 := w1.alloc (.cells #[.slice au l.length cu] 26)) (((Joins.below_alloc1 w nilG).trans (HB.out.mono (by omega))).trans ((Joins.below_alloc1 w1 _).mono (by omega))) (HO.out.alloc _))
  go_wp2
  refine bodyPost_ret (v := .tuple #[.agg #[.slice au l.length cu], .int .i64 x, .int .i64 y]) (by simp [results, Tryz.results16, go_sem, c3]) rfl ?_
  exact ⟨_, l, x, y, rfl, hx0, hx1, hy0, hy1, HE.out.1, HL.out, HE.out.2⟩
set_option maxHeartbeats 4000000 in
theorem dDfs_any (w : World) (a : Option Addr) (len cap : Nat) (hlen : len ≤ 1048576) (hd : CodeIn w a len) :
    Calls Tryz.prog 8 #[.slice a len cap] w (DrawnGI w) := by
  have HN := Lib.hid (both10_at w a len cap hlen hd)
  have R0 := Lib.hid (heap_alloc_new w nilG)
  clear hd
  go_enter Tryz.func8, Tryz.ntmps8
  go_wp2_with (go_at_call 27; refine HN.out.mono ?_; rintro e w1 ⟨u, l, x, y, rfl, hx0, hx1, hy0, hy1, ho, hl, hb⟩; obtain ⟨au, cu, rfl⟩ := own_slice' rfl ho; have HO := Lib.hid ho; have HB := Lib.hid hb; have HL := Lib.hid hl; have g1 := newC w1 (.slice au l.length cu) 26 (n := w1.heap.size) rfl; have hs := (show w.heap.size + 1 ≤ w1.heap.size from by have := hb.size; simpa using this); obtain ⟨c1, f1⟩ := one_cell ((hb.block _ (by omega)).trans R0.out); have c2 : (w1.alloc (.cells #[.slice au l.length cu] 26)).cell? ⟨w.heap.size, 0, none⟩ = some (.slice none 0 0) := (World.cell?_alloc_past _ _ _ (by omega)).trans c1; have f2 := (frozen?_alloc_cells w1 #[.slice au l.length cu] 26 ⟨w.heap.size, 0, none⟩).trans f1; clear ho hl hb)
  have c3 := World.cell?_setCell_same (w1.alloc (.cells #[.slice au l.length cu] 26)) ⟨w.heap.size, 0, none⟩ (.slice au l.length cu) c2
  have HE := Lib.hid (hand_on (w := w) (w1 := w1.alloc (.cells #[.slice au l.length cu] 26)) (((Joins.below_alloc1 w nilG).trans (HB.out.mono (by omega))).trans ((Joins.below_alloc1 w1 _).mono (by omega))) (HO.out.alloc _))
  go_wp2
  refine bodyPost_ret (v := .tuple #[.agg #[.slice au l.length cu], .int .i64 x]) (by simp [results, Tryz.results8, go_sem, c3]) rfl ?_
  exact ⟨_, l, x, rfl, hx0, hx1, HE.out.1, HL.out, HE.out.2⟩
set_option maxHeartbeats 4000000 in
theorem dLng_any (w : World) (a : Option Addr) (len cap : Nat) (hlen : len ≤ 1048576) (hd : CodeIn w a len) :
    Calls Tryz.prog 20 #[.slice a len cap] w (DrawnGI w) := by
  have HN := Lib.hid (one_at w a len cap hlen hd)
  have R0 := Lib.hid (heap_alloc_new w nilG)
  clear hd
  go_enter Tryz.func20, Tryz.ntmps20
  go_wp2_with (go_at_call 48; refine HN.out.mono ?_; rintro e w1 ⟨u, l, x, rfl, hx0, hx1, ho, hl, hb⟩; go_loud (obtain ⟨au, cu, rfl⟩ := own_slice' rfl ho; have HO := Lib.hid ho; have HB := Lib.hid hb; have HL := Lib.hid hl; have g1 := newC w1 (.slice au l.length cu) 26 (n := w1.heap.size) rfl; have hs := (show w.heap.size + 1 ≤ w1.heap.size from by have := hb.size; simpa using this); obtain ⟨c1, f1⟩ := one_cell ((hb.block _ (by omega)).trans R0.out); have c2 : (w1.alloc (.cells #[.slice au l.length cu] 26)).cell? ⟨w.heap.size, 0, none⟩ = some (.slice none 0 0) := (World.cell?_alloc_past _ _ _ (by omega)).trans c1; have f2 := (frozen?_alloc_cells w1 #[.slice au l.length cu] 26 ⟨w.heap.size, 0, none⟩).trans f1; clear ho hl hb))
  have c3 := World.cell?_setCell_same (w1.alloc (.cells #[.slice au l.length cu] 26)) ⟨w.heap.size, 0, none⟩ (.slice au l.length cu) c2
  have HE := Lib.hid (hand_on (w := w) (w1 := w1.alloc (.cells #[.slice au l.length cu] 26)) (((Joins.below_alloc1 w nilG).trans (HB.out.mono (by omega))).trans ((Joins.below_alloc1 w1 _).mono (by omega))) (HO.out.alloc _))
  go_wp2
  refine bodyPost_ret (v := .tuple #[.agg #[.slice au l.length cu], .int .i64 x]) (by simp [results, Tryz.results20, go_sem, c3]) rfl ?_
  exact ⟨_, l, x, rfl, hx0, hx1, HE.out.1, HL.out, HE.out.2⟩
set_option maxHeartbeats 4000000 in
theorem dPrm_any (w : World) (a : Option Addr) (len cap : Nat) (hlen : len ≤ 1048576) (hd : CodeIn w a len) :
    Calls Tryz.prog 21 #[.slice a len cap] w fun e w' => ∃ (u : Value) (l : List Int), e = .returned (.agg #[u]) ∧ DGrp w u l w' := by
  have HN := Lib.hid (new_at w a len cap hlen hd)
  clear hd
  go_enter Tryz.func21, Tryz.ntmps21
  go_wp2_with (first
    | (go_at_call 49; refine (l2Any_any _ _ a len cap hlen HC1.out HD1.out).mono ?_; rintro e w2 ⟨u, l, rfl, ho, hl, hcur, hg⟩; obtain ⟨au, cu, rfl, m2⟩ := mid_of HD1.out HB1.out HC1.out ho hl hcur hg; have M2 := Lib.hid m2; clear ho hl hcur hg m2; have c2 := M2.out.cells.1; have f2 := M2.out.cells.2)
    | (go_at_call 50; refine HN.out.mono ?_; rintro e w1 ⟨rfl, hcur, hda, hbel⟩; have HC1 := Lib.hid hcur; have HD1 := Lib.hid hda; have HB1 := Lib.hid hbel; clear hcur hda hbel))
  have c3 := World.cell?_setCell_same w2 ⟨w.heap.size, 0, none⟩ (.slice au l.length cu) c2
  go_wp2
  refine bodyPost_ret (v := .agg #[.slice au l.length cu]) (by simp [results, Tryz.results21, go_sem, c3]) rfl ?_
  exact ⟨_, l, rfl, M2.out.finish.1, M2.out.few, M2.out.finish.2⟩
set_option maxHeartbeats 4000000 in
theorem dPrg_any (w : World) (a : Option Addr) (len cap : Nat) (hlen : len ≤ 1048576) (hd : CodeIn w a len) :
    Calls Tryz.prog 19 #[.slice a len cap] w fun e w' => ∃ (u : Value) (l : List Int) (x y z : Int), e = .returned (.tuple #[.agg #[u], .int .i64 x, .int .i64 y, .int .i64 z]) ∧ -9223372036854775808 ≤ x ∧ x ≤ 9223372036854775807 ∧ -9223372036854775808 ≤ y ∧ y ≤ 9223372036854775807 ∧ (z ≤ 1 ∨ z = 3 ∨ z = 24 ∨ z = 25) ∧ -1 ≤ z ∧ DGrp w u l w' := by
  have HN := Lib.hid (twoE_at w a len cap hlen hd)
  have R0 := Lib.hid (heap_alloc_new w nilG)
  clear hd
  have hq7 : (len : Int) % 6 = 0 ∨ (len : Int) % 6 = 1 ∨ (len : Int) % 6 = 2 ∨ (len : Int) % 6 = 3 ∨ (len : Int) % 6 = 4 ∨ (len : Int) % 6 = 5 := by omega
  go_enter Tryz.func19, Tryz.ntmps19
  go_wp2_with (go_at_call 47; refine HN.out.mono ?_; rintro e w1 ⟨u, l, x, y, rfl, hx0, hx1, hy0, hy1, ho, hl, hb⟩; obtain ⟨au, cu, rfl⟩ := own_slice' rfl ho; have HO := Lib.hid ho; have HB := Lib.hid hb; have HL := Lib.hid hl; have g1 := newC w1 (.slice au l.length cu) 26 (n := w1.heap.size) rfl; have hs := (show w.heap.size + 1 ≤ w1.heap.size from by have := hb.size; simpa using this); obtain ⟨c1, f1⟩ := one_cell ((hb.block _ (by omega)).trans R0.out); have c2 : (w1.alloc (.cells #[.slice au l.length cu] 26)).cell? ⟨w.heap.size, 0, none⟩ = some (.slice none 0 0) := (World.cell?_alloc_past _ _ _ (by omega)).trans c1; have f2 := (frozen?_alloc_cells w1 #[.slice au l.length cu] 26 ⟨w.heap.size, 0, none⟩).trans f1; clear ho hl hb)
  obtain ⟨W, hW⟩ : ∃ W, W = w1.alloc (.cells #[.slice au l.length cu] 26) := ⟨_, rfl⟩
  have HWO : Hid (W.ownsRow (w.heap.size + 1) 3 1 (.slice au l.length cu) l.length (l.map (Value.int .i64)) ∧ Below w.heap.size w W) := Lib.hid (by rw [hW]; exact ⟨HO.out.alloc _, ((Joins.below_alloc1 w nilG).trans (HB.out.mono (by omega))).trans ((Joins.below_alloc1 w1 _).mono (by omega))⟩)
  have hws : w1.heap.size < W.heap.size := by rw [hW]; simp
  rw [← hW] at c2 f2 g1 ⊢
  clear hW
  have hww : w.heap.size ≤ W.drew.heap.size := by show w.heap.size ≤ W.heap.size; omega
  have hw1 : w.heap.size < W.heap.size := by omega
  have k2 : (W.drew.alloc (.cells #[.int .i64 0, .int .i64 1, .int .i64 3, .int .i64 24, .int .i64 25, .int .i64 (-1)] 3)).cell? ⟨w1.heap.size, 0, none⟩ = some (.slice au l.length cu) := (World.cell?_alloc_past _ _ _ hws).trans g1
  have k3 : (W.drew.alloc (.cells #[.int .i64 0, .int .i64 1, .int .i64 3, .int .i64 24, .int .i64 25, .int .i64 (-1)] 3)).cell? ⟨w.heap.size, 0, none⟩ = some (.slice none 0 0) := (World.cell?_alloc_past _ _ _ hw1).trans c2
  have k4 : (W.drew.alloc (.cells #[.int .i64 0, .int .i64 1, .int .i64 3, .int .i64 24, .int .i64 25, .int .i64 (-1)] 3)).frozen? ⟨w.heap.size, 0, none⟩ = false := (frozen?_alloc_cells _ _ _ _).trans f2
  have k5 : ((W.setCell ⟨w.heap.size, 0, none⟩ (.slice au l.length cu)).alloc (.cells #[.int .i64 0, .int .i64 1, .int .i64 3, .int .i64 24, .int .i64 25, .int .i64 (-1)] 3)).cell? ⟨w.heap.size, 0, none⟩ = some (.slice au l.length cu) := (World.cell?_alloc_past _ _ _ (by simpa using hw1)).trans (World.cell?_setCell_same _ _ _ c2)
  have HE : Hid (World.ownsRow (((W.setCell ⟨w.heap.size, 0, none⟩ (.slice au l.length cu)).alloc (.cells #[.int .i64 0, .int .i64 1, .int .i64 3, .int .i64 24, .int .i64 25, .int .i64 (-1)] 3)).drew) w.heap.size 3 1 (.slice au l.length cu) l.length (l.map (Value.int .i64)) ∧ Below w.heap.size w (((W.setCell ⟨w.heap.size, 0, none⟩ (.slice au l.length cu)).alloc (.cells #[.int .i64 0, .int .i64 1, .int .i64 3, .int .i64 24, .int .i64 25, .int .i64 (-1)] 3)).drew)) := Lib.hid (by
    have h := hand_on (w := w) (w1 := W) HWO.out.2 HWO.out.1
    exact ⟨(h.1.alloc _).drew, (h.2.trans ((Joins.below_alloc1 _ _).mono (by simp; omega))).drew⟩)
  have htm : (len : Int).tmod 6 = (len : Int) % 6 := Int.tmod_eq_emod_of_nonneg (by omega)
  rcases hq7 with e7 | e7 | e7 | e7 | e7 | e7
  · have t7 := htm.trans e7
    clear htm
    go_region_with (fail)
    all_goals
      go_wp2
      refine bodyPost_ret (v := .tuple #[.agg #[.slice au l.length cu], .int .i64 x, .int .i64 y, .int .i64 (0)]) (by simp [results, Tryz.results19, go_sem, k5]) rfl ?_
      exact ⟨_, l, x, y, 0, rfl, hx0, hx1, hy0, hy1, by decide, by decide, HE.out.1, HL.out, HE.out.2⟩
  · have t7 := htm.trans e7
    clear htm
    go_region_with (fail)
    all_goals
      go_wp2
      refine bodyPost_ret (v := .tuple #[.agg #[.slice au l.length cu], .int .i64 x, .int .i64 y, .int .i64 (1)]) (by simp [results, Tryz.results19, go_sem, k5]) rfl ?_
      exact ⟨_, l, x, y, 1, rfl, hx0, hx1, hy0, hy1, by decide, by decide, HE.out.1, HL.out, HE.out.2⟩
  · have t7 := htm.trans e7
    clear htm
    go_region_with (fail)
    all_goals
      go_wp2
      refine bodyPost_ret (v := .tuple #[.agg #[.slice au l.length cu], .int .i64 x, .int .i64 y, .int .i64 (3)]) (by simp [results, Tryz.results19, go_sem, k5]) rfl ?_
      exact ⟨_, l, x, y, 3, rfl, hx0, hx1, hy0, hy1, by decide, by decide, HE.out.1, HL.out, HE.out.2⟩
  · have t7 := htm.trans e7
    clear htm
    go_region_with (fail)
    all_goals
      go_wp2
      refine bodyPost_ret (v := .tuple #[.agg #[.slice au l.length cu], .int .i64 x, .int .i64 y, .int .i64 (24)]) (by simp [results, Tryz.results19, go_sem, k5]) rfl ?_
      exact ⟨_, l, x, y, 24, rfl, hx0, hx1, hy0, hy1, by decide, by decide, HE.out.1, HL.out, HE.out.2⟩
  · have t7 := htm.trans e7
    clear htm
    go_region_with (fail)
    all_goals
      go_wp2
      refine bodyPost_ret (v := .tuple #[.agg #[.slice au l.length cu], .int .i64 x, .int .i64 y, .int .i64 (25)]) (by simp [results, Tryz.results19, go_sem, k5]) rfl ?_
      exact ⟨_, l, x, y, 25, rfl, hx0, hx1, hy0, hy1, by decide, by decide, HE.out.1, HL.out, HE.out.2⟩
  · have t7 := htm.trans e7
    clear htm
    go_region_with (fail)
    all_goals
      go_wp2
      refine bodyPost_ret (v := .tuple #[.agg #[.slice au l.length cu], .int .i64 x, .int .i64 y, .int .i64 (-1)]) (by simp [results, Tryz.results19, go_sem, k5]) rfl ?_
      exact ⟨_, l, x, y, -1, rfl, hx0, hx1, hy0, hy1, by decide, by decide, HE.out.1, HL.out, HE.out.2⟩
end Go.Proofs.YtfkleihnafeoeaaGreatDoor

namespace Go.Proofs.YtfkleihnafeoeaaGreatDoor
open Go.RowKit
def IsRow (k : IntKind) (w : World) (a : Option Addr) (len cap : Nat) (zs : List Int) : Prop :=
  (a = none ∧ len = 0 ∧ cap = 0 ∧ zs = []) ∨
  ∃ x, a = some x ∧ len ≤ cap ∧ cap ≤ maxLen ∧ zs.length = cap ∧ (∀ i, i < zs.length → w.cell? (x.add i) = some (.int k (zs.getD i 0))) ∧ ∀ n ∈ zs, (Lit.int k n).wf = true
theorem code_of_row {w : World} {a : Option Addr} {len cap : Nat} {zs : List Int} (h : IsRow .u8 w a len cap zs) : CodeIn w a len := by
  rcases h with ⟨_, h0, _⟩ | ⟨x, rfl, hl, hm, hz, hcell, hwz⟩
  · exact Or.inl h0
  · by_cases h0 : len = 0
    · exact Or.inl h0
    · obtain ⟨b, off, spot⟩ := x
      have hc0 := hcell 0 (by omega)
      have hspot : spot = none := by simpa [Addr.add] using World.cell?_spot hc0
      subst hspot
      have hadd : ∀ i, (⟨b, off, none⟩ : Addr).add i = ⟨b, off + i, none⟩ := fun i => by simp [Addr.add]
      refine Or.inr ⟨b, off, rfl, ?_, fun i hi => ?_⟩
      · have := World.block_lt_of_cell? w _ hc0
        simpa [Addr.add] using this
      · have hw := hwz (zs.getD i 0) (by
          have hi2 : i < zs.length := by omega
          simp only [List.getD, List.getElem?_eq_getElem hi2, Option.getD_some]
          exact List.getElem_mem _)
        have hb : 0 ≤ zs.getD i 0 ∧ zs.getD i 0 ≤ 255 := by simpa [Lit.wf, IntKind.min, IntKind.max, IntKind.bits, IntKind.signed] using hw
        refine ⟨(zs.getD i 0).toNat, by omega, ?_⟩
        rw [← hadd, hcell i (by omega), show (((zs.getD i 0).toNat : Nat) : Int) = zs.getD i 0 by omega]
theorem len_of_row {w : World} {a : Option Addr} {len cap : Nat} {zs : List Int} (h : IsRow .u8 w a len cap zs) : len ≤ 9223372036854775807 := by
  rcases h with ⟨_, h0, _⟩ | ⟨x, _, hl, hm, _⟩
  · omega
  · unfold maxLen at hm; omega
end Go.Proofs.YtfkleihnafeoeaaGreatDoor
