/- Merged: GrpIn GrpFun Srt1 Srt2. -/
import Derived.Test.YtehdneppleifdaaGreatDoorMGAG
import Derived.Deep.RegionHeld3
import Derived.Deep.DeepCutAuto
import Derived.Test.YtehdneppleifdaaGreatDoorMGAB
import Derived.Sort.Lot0
import Derived.Shelf.RegionOpenPlain
import Derived.BigQuiet
import Derived.CellFam
namespace Go.Proofs.YtehdneppleifdaaGreatDoor
open Go.RowKit
set_option maxRecDepth 1000000
theorem keepH {B k : Nat} {w w' : World} {o : Obj} (hb : Below B w w') (hk : k < B) (h : w.heap[k]? = some o) : w'.heap[k]? = some o := (hb.block k hk).trans h
end Go.Proofs.YtehdneppleifdaaGreatDoor

namespace Go.Proofs.YtehdneppleifdaaGreatDoor
open Go.RowKit
set_option maxRecDepth 1000000
theorem ord0 {l : List Int} : (0 < l.length → l.getD 0 0 = l.getD 0 1) ∧ (l.length ≤ 0 → l.getD 0 1 = 1) := by
  cases l <;> simp
theorem ord1 {l : List Int} : (1 < l.length → l.getD 1 0 = l.getD 1 1) ∧ (l.length ≤ 1 → l.getD 1 1 = 1) := by
  match l with
  | [] => simp
  | [_] => simp
  | _ :: _ :: _ => simp
theorem ord2 {l : List Int} : (2 < l.length → l.getD 2 0 = l.getD 2 1) ∧ (l.length ≤ 2 → l.getD 2 1 = 1) := by
  match l with
  | [] => simp
  | [_] => simp
  | [_, _] => simp
  | _ :: _ :: _ :: _ => simp
theorem PK_1 {l : List Int} (h : 1 ≤ l.length) : PK l 1 = l.getD 0 1 := by
  match l, h with
  | _ :: _, _ => simp [PK, prodI]
theorem PK_2 {l : List Int} (h : 2 ≤ l.length) : PK l 2 = l.getD 0 1 * l.getD 1 1 := by
  match l, h with
  | _ :: _ :: _, _ => simp [PK, prodI]
/-- A value by its three places. -/
theorem val_tri {l : List Int} (hl : l.length ≤ 3) (f : Nat → Int) (f0 f1 f2 : Int) (h0 : 0 < l.length → f 0 = f0) (h1 : 1 < l.length → f 1 = f1) (h2 : 2 < l.length → f 2 = f2)
    (z0 : l.length ≤ 0 → f0 = 0) (z1 : l.length ≤ 1 → f1 = 0) (z2 : l.length ≤ 2 → f2 = 0) : valK l f l.length = f0 + l.getD 0 1 * f1 + l.getD 0 1 * l.getD 1 1 * f2 := by
  match l, hl with
  | [], _ => simp at *; simp [valK, z0, z1, z2]
  | [a], _ => simp at *; simp [valK, PK, prodI, h0, z1, z2]
  | [a, b], _ => simp at *; simp [valK, PK, prodI, h0, h1, z2, Int.mul_comm]
  | [a, b, c], _ => simp at *; simp [valK, PK, prodI, h0, h1, h2, Int.mul_comm]
  | _ :: _ :: _ :: _ :: _, h => simp at h
theorem tdig0 {l : List Int} (x : Int) (h : 0 < l.length) : dig l x 0 = x % l.getD 0 1 := by
  unfold dig; rw [PK_zero, Int.ediv_one, ord0.1 h]
theorem tdig1 {l : List Int} (x : Int) (h : 1 < l.length) : dig l x 1 = x / l.getD 0 1 % l.getD 1 1 := by
  unfold dig; rw [PK_1 (by omega), ord1.1 h]
theorem tdig2 {l : List Int} (x : Int) (h : 2 < l.length) (hp : 0 ≤ l.getD 0 1) : dig l x 2 = x / l.getD 0 1 / l.getD 1 1 % l.getD 2 1 := by
  unfold dig; rw [PK_2 (by omega), ord2.1 h, Int.ediv_ediv_of_nonneg hp]
theorem one_mod {c x : Int} (h : c = 1) : x % c = 0 := by rw [h, Int.emod_one]
theorem add_tri {l : List Int} (hl : l.length ≤ 3) (x y : Int) (hp : 0 ≤ l.getD 0 1) : addN l x y =
    (x % l.getD 0 1 + y % l.getD 0 1) % l.getD 0 1 + l.getD 0 1 * ((x / l.getD 0 1 % l.getD 1 1 + y / l.getD 0 1 % l.getD 1 1) % l.getD 1 1) + l.getD 0 1 * l.getD 1 1 * ((x / l.getD 0 1 / l.getD 1 1 % l.getD 2 1 + y / l.getD 0 1 / l.getD 1 1 % l.getD 2 1) % l.getD 2 1) :=
  val_tri hl _ _ _ _ (fun h => by rw [sdig_eq, tdig0 x h, tdig0 y h, ord0.1 h]) (fun h => by rw [sdig_eq, tdig1 x h, tdig1 y h, ord1.1 h]) (fun h => by rw [sdig_eq, tdig2 x h hp, tdig2 y h hp, ord2.1 h])
    (fun h => one_mod (ord0.2 h)) (fun h => one_mod (ord1.2 h)) (fun h => one_mod (ord2.2 h))
theorem mul_tri {l : List Int} (hl : l.length ≤ 3) (x k : Int) (hp : 0 ≤ l.getD 0 1) : mulN l x k =
    x % l.getD 0 1 * k % l.getD 0 1 + l.getD 0 1 * (x / l.getD 0 1 % l.getD 1 1 * k % l.getD 1 1) + l.getD 0 1 * l.getD 1 1 * (x / l.getD 0 1 / l.getD 1 1 % l.getD 2 1 * k % l.getD 2 1) :=
  val_tri hl _ _ _ _ (fun h => by unfold mulF; rw [tdig0 x h, ord0.1 h]) (fun h => by unfold mulF; rw [tdig1 x h, ord1.1 h]) (fun h => by unfold mulF; rw [tdig2 x h hp, ord2.1 h])
    (fun h => one_mod (ord0.2 h)) (fun h => one_mod (ord1.2 h)) (fun h => one_mod (ord2.2 h))
theorem emod_b {a c : Int} (h : 1 ≤ c) : 0 ≤ a % c ∧ a % c < c := ⟨Int.emod_nonneg _ (by omega), Int.emod_lt_of_pos _ (by omega)⟩
/-- What placesIn answers. -/
def InPost (l : List Int) (x : Int) (w : World) (e : Ending) (w' : World) : Prop :=
  ∃ p q r u v s, e = .returned (.tuple #[tV p q r, tV u v s, .bool (isE l x)]) ∧ (isE l x = true → p = l.getD 0 1 ∧ q = l.getD 1 1 ∧ r = l.getD 2 1 ∧ u = x % l.getD 0 1 ∧ v = x / l.getD 0 1 % l.getD 1 1 ∧ s = x / l.getD 0 1 / l.getD 1 1 % l.getD 2 1) ∧ Below w.heap.size w w'
end Go.Proofs.YtehdneppleifdaaGreatDoor

namespace Go.Proofs.YtehdneppleifdaaGreatDoor
open Go.RowKit
set_option maxRecDepth 1000000
def ltN (x y : Nat) : Bool := decide (x < y)
def eV (x : Nat) : Value := .int .u64 ((x : Nat) : Int)
/-- Block g holds the array d, pre ahead of it, tl behind it. -/
def SR (w : World) (g : Nat) (pre tl : List Value) (d : Array Nat) : Prop := w.heap[g]? = some (.cells (pre ++ d.toList.map eV ++ tl).toArray 43 (0, 0))
theorem SR.fam {w : World} {g off : Nat} {pre tl : List Value} {d : Array Nat} (h : SR w g pre tl d) (ho : pre.length = off) {i : Nat} (hi : i < d.size) : w.cell? ⟨g, off + i, none⟩ = some (.int .u64 ((d[i]! : Nat) : Int)) := by
  unfold SR at h
  unfold World.cell?
  simp only [h]
  have : (pre ++ d.toList.map eV ++ tl)[off + i]? = some (eV d[i]!) := by
    rw [List.append_assoc, List.getElem?_append_right (by omega), List.getElem?_append_left (by simp; omega), List.getElem?_map]
    simp [← ho, hi]
  simpa [eV] using this
theorem SR.frozen {w : World} {g : Nat} {pre tl : List Value} {d : Array Nat} (h : SR w g pre tl d) (i : Nat) : w.frozen? ⟨g, i, none⟩ = false := by
  unfold SR at h
  simp [World.frozen?, h]
theorem SR.drewN {w : World} {g : Nat} {pre tl : List Value} {d : Array Nat} (h : SR w g pre tl d) (n : Nat) : SR (w.drewN n) g pre tl d := h
theorem SR.set {w : World} {g off : Nat} {pre tl : List Value} {d : Array Nat} (h : SR w g pre tl d) (ho : pre.length = off) (i x : Nat) (hi : i < d.size) : SR (w.setCell ⟨g, off + i, none⟩ (.int .u64 ((x : Nat) : Int))) g pre tl (d.setIfInBounds i x) := by
  unfold SR at h ⊢
  rw [heap_setCell_same w g (off + i) _ _ _ h]
  congr 2
  apply Array.ext'
  simp only [Array.toList_setIfInBounds, List.map_set]
  rw [List.append_assoc, List.append_assoc, List.set_append_right _ _ (by omega), List.set_append_left _ _ (by simp; omega)]
  congr 3
  omega
theorem SR.swp {w : World} {g off : Nat} {pre tl : List Value} {d : Array Nat} (h : SR w g pre tl d) (ho : pre.length = off) {i j : Nat} (hi : i < d.size) (hj : j < d.size) :
    SR ((w.setCell ⟨g, off + i, none⟩ (.int .u64 ((d[j]! : Nat) : Int))).setCell ⟨g, off + j, none⟩ (.int .u64 ((d[i]! : Nat) : Int))) g pre tl (Sort.swp d i j) :=
  (h.set ho i _ hi).set ho j _ (by simpa using hj)
theorem swp_size (d : Array Nat) (i j : Nat) : (Sort.swp d i j).size = d.size := Sort.size_swp d i j
theorem iNaN (w : World) (x : Nat) : Calls Tryz.prog 104 #[.int .u64 x] w fun e w' => e = .returned (.bool false) ∧ w = w' := by
  go_enter Tryz.func104, Tryz.ntmps104
  go_wp2
  go_ret
  exact ⟨by simp, rfl⟩
theorem iLt (w : World) (x y : Nat) : Calls Tryz.prog 94 #[.int .u64 x, .int .u64 y] w fun e w' => e = .returned (.bool (ltN x y)) ∧ w' = w := by
  have hl : decide ((x : Int) < (y : Int)) = ltN x y := by unfold ltN; simp
  go_enter Tryz.func94, Tryz.ntmps94
  go_wp2_with (go_at_call 104; refine (iNaN _ _).mono ?_; rintro e w1 ⟨rfl, rfl⟩)
  go_ret
  exact ⟨by first | rfl | (simp [ltN]), rfl⟩
end Go.Proofs.YtehdneppleifdaaGreatDoor

namespace Go.Proofs.YtehdneppleifdaaGreatDoor
open Go.RowKit
set_option maxRecDepth 1000000
theorem ins_in (a u : Nat) (D : Array Nat) : Sort.insInner ltN a (u + 1) D = if (decide (u + 1 > a) && ltN D[u + 1]! D[u]!) = true then Sort.insInner ltN a u (Sort.swp D (u + 1) u) else D := rfl
theorem ins_lo {a t : Nat} (h : ¬ a < t) (D : Array Nat) : Sort.insInner ltN a t D = D := by
  cases t with
  | zero => rfl
  | succ u => rw [ins_in, decide_eq_false h, if_neg (by simp)]
theorem ins_size (a : Nat) : ∀ (t : Nat) (D : Array Nat), (Sort.insInner ltN a t D).size = D.size
  | 0, _ => rfl
  | u + 1, D => by
    rw [ins_in]
    split
    · rw [ins_size a u, swp_size]
    · rfl
theorem grown_trans {a b c : World} {row : Option Nat} (h : a.grownBy b row) (k : b.grownBy c row) : a.grownBy c row := grownG_trans h k
theorem grown_drew {w wr : World} {g : Nat} (h : w.grownBy wr (some g)) (q : Nat) : w.grownBy (wr.drewN q) (some g) := ⟨h.os, h.tape, h.output, h.size, h.block⟩
theorem grown_swp {w wr : World} {g i j : Nat} {x y : Value} (h : w.grownBy wr (some g)) : w.grownBy ((wr.setCell ⟨g, i, none⟩ x).setCell ⟨g, j, none⟩ y) (some g) := grownG_set (grownG_set h _ _) _ _
set_option maxHeartbeats 4000000 in
theorem srtIns (w : World) (g off : Nat) (pre tl : List Value) (d : Array Nat) (n cap a b : Nat) (ho : pre.length = off) (hn : n = d.size) (hb : b ≤ n) (ha : a ≤ 16777216) (hn24 : n ≤ 16777216) (h : SR w g pre tl d) :
    Calls Tryz.prog 88 #[.slice (some ⟨g, off, none⟩) n cap, .int .i64 a, .int .i64 b] w fun e w' => e = .returned (.tuple #[]) ∧ SR w' g pre tl (Sort.insertionSort ltN d a b) ∧ w.grownBy w' (some g) := by
  have HR := Lib.hid h
  have HN := Lib.hid hn.symm
  have HOF := Lib.hid ho
  clear h hn ho
  go_enter Tryz.func88, Tryz.ntmps88
  go_wp2
  go_loopw [6] (fun i wr => ∃ (k : Nat) (D : Array Nat), i = .int .i64 k ∧ a + 1 ≤ k ∧ k ≤ 16777218 ∧ SR wr g pre tl D ∧ D.size = n ∧ Hid (Sort.insOuter ltN a b k D = Sort.insertionSort ltN d a b) ∧ w.grownBy wr (some g)) (fun i _ => b - (intOf i).toNat)
  case atStart => exact ⟨a + 1, d, by go_num, Nat.le_refl _, by omega, HR.out, HN.out, Lib.hid rfl, World.grownBy.refl _ _⟩
  case round =>
    obtain ⟨k, D, rfl, hk1, hk2, hsr, hsz, HO, hgr⟩ := hrel
    have HSR := Lib.hid hsr
    have HSZ := Lib.hid hsz
    have HGR := Lib.hid hgr
    by_cases hkb : k < b
    · have hkb' : (k : Int) < (b : Int) := by omega
      obtain ⟨T, HT⟩ : ∃ T, Hid (Sort.insInner ltN a k D = T) := ⟨_, Lib.hid rfl⟩
      have HO2 : Hid (Sort.insOuter ltN a b (k + 1) T = Sort.insertionSort ltN d a b) := Lib.hid (by
        rw [← HT.out, ← HO.out]
        conv => rhs; unfold Sort.insOuter
        rw [if_pos hkb])
      have HTS : Hid (T.size = n) := Lib.hid (by rw [← HT.out]; exact (ins_size a k D).trans HSZ.out)
      clear hsr hsz hgr
      go_wp2
      go_loopw [7] (fun j wr => ∃ (t : Nat) (D2 : Array Nat), j = .int .i64 t ∧ t ≤ k ∧ SR wr g pre tl D2 ∧ D2.size = n ∧ Hid (Sort.insInner ltN a t D2 = T) ∧ w.grownBy wr (some g)) (fun j _ => (intOf j).toNat)
      case atStart => exact ⟨k, D, rfl, Nat.le_refl _, HSR.out, HSZ.out, HT, HGR.out⟩
      case round =>
        obtain ⟨t, D2, rfl, htk, hsr, hsz, HI, hgr⟩ := hrel
        have HSR2 := Lib.hid hsr
        have HSZ2 := Lib.hid hsz
        have HGR2 := Lib.hid hgr
        clear hsr hsz hgr
        by_cases hta : a < t
        · obtain ⟨u, rfl⟩ : ∃ u, t = u + 1 := ⟨t - 1, by omega⟩
          obtain ⟨G, hG⟩ : ∃ G : Nat → Nat, ∀ t, G t = D2[t]! := ⟨fun t => D2[t]!, fun _ => rfl⟩
          have hcw : ∀ t, t < n → wr.cell? ⟨g, off + t, none⟩ = some (.int .u64 ((G t : Nat) : Int)) := fun t ht => by rw [hG]; exact HSR2.out.fam HOF.out (by rw [HSZ2.out]; exact ht)
          have hfw : ∀ t, t < n → wr.frozen? ⟨g, off + t, none⟩ = false := fun t _ => HSR2.out.frozen _
          have HG := Lib.hid hG
          clear hG
          have hta' : (a : Int) < (u : Int) + 1 := by omega
          cases hl : ltN (G (u + 1)) (G u) with
          | true =>
            have HI2 : Hid (Sort.insInner ltN a u (Sort.swp D2 (u + 1) u) = T) := Lib.hid (by
              rw [← HI.out, ins_in, ← HG.out, ← HG.out, hl, decide_eq_true hta, if_pos (by simp)])
            go_wp2_with fail
            go_quiet (first | (go_at_call 94; refine Calls.quiet_of_same (iLt _ _ _)))
            go_wp2
            go_region
            all_goals go_wp2

            go_roundw
            case rel => exact ⟨u, Sort.swp D2 (u + 1) u, by go_num, by omega, by rw [HG.out, HG.out]; exact (HSR2.out.drewN _).swp HOF.out (by rw [HSZ2.out]; omega) (by rw [HSZ2.out]; omega), by rw [swp_size]; exact HSZ2.out, HI2, grown_swp (grown_drew HGR2.out _)⟩
            case measure => first | (simp [intOf]; done) | (simp [intOf]; omega)
          | false =>
            have HI2 : Hid (T = D2) := Lib.hid (by
              rw [← HI.out, ins_in, ← HG.out, ← HG.out, hl, if_neg (by simp)])
            go_wp2_with fail
            go_quiet (first | (go_at_call 94; refine Calls.quiet_of_same (iLt _ _ _)))
            go_wp2
            go_roundw
            case rel => exact ⟨k + 1, T, by go_num, by omega, by omega, by rw [HI2.out]; exact HSR2.out.drewN _, HTS.out, HO2, grown_drew HGR2.out _⟩
            case measure => first | (simp [intOf]; done) | (simp [intOf]; omega)
        · have HI2 : Hid (T = D2) := Lib.hid (by rw [← HI.out, ins_lo hta])
          have hta' : ¬ (a : Int) < (t : Int) := by omega
          go_wp2_with fail
          go_quiet (first | (go_at_call 94; refine Calls.quiet_of_same (iLt _ _ _)))
          go_wp2
          go_roundw
          case rel => exact ⟨k + 1, T, by go_num, by omega, by omega, by rw [HI2.out]; exact HSR2.out.drewN _, HTS.out, HO2, grown_drew HGR2.out _⟩
          case measure => first | (simp [intOf]; done) | (simp [intOf]; omega)
    · have hkb' : ¬ (k : Int) < (b : Int) := by omega
      have HE : Hid (D = Sort.insertionSort ltN d a b) := Lib.hid (by
        rw [← HO.out]
        unfold Sort.insOuter
        rw [if_neg hkb])
      clear hsr hsz hgr
      go_wp2
      go_end0
      exact ⟨rfl, by rw [← HE.out]; exact HSR.out, HGR.out⟩
end Go.Proofs.YtehdneppleifdaaGreatDoor
