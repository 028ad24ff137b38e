/- The contracts of chapters 2 and 3 as a long walk uses them: in any world that keeps what stood at its beginning. -/
import Derived.Test.YtkejpikhlejmaaaGreatDoorOn
import Derived.Test.YtkejpikhlejmaaaGreatDoorDILA
import Derived.Test.YtkejpikhlejmaaaGreatDoorSetDil
import Derived.Test.YtkejpikhlejmaaaGreatDoorLstI
import Derived.Test.YtkejpikhlejmaaaGreatDoorParSS
import Derived.Test.YtkejpikhlejmaaaGreatDoorDGRA
import Derived.Test.YtkejpikhlejmaaaGreatDoorDGrp4
import Derived.Test.YtkejpikhlejmaaaGreatDoorDGrp5
namespace Go.Proofs.YtkejpikhlejmaaaGreatDoor
open Go.RowKit
set_option maxRecDepth 1000000
theorem qsFmt {W0 W : World} {au : Option Addr} {cu : Nat} {l : List Int} {x : Int} (hi : Ints W0 au l) (hl : l.length ≤ 4) (o : On W0 W) :
    Calls Tryz.prog 10 #[.agg #[.slice au l.length cu], .int .i64 x] W fun e w' => e = .returned (strV (fmtS l x)) ∧ On W0 w' :=
  (sFmtS W au l _ cu x rfl (by omega) (o.ints hi)).mono fun _ _ h => ⟨h.1, o.step h.2⟩
theorem qiFmt {W0 W : World} {au : Option Addr} {cu : Nat} {l : List Int} {x : Int} {B : Nat} (hi : Ints W0 au l) (hl : l.length ≤ 4) (hB : B ≤ W0.heap.size) (ht : TabZ B W0) (o : On W0 W) :
    Calls Tryz.prog 6 #[.agg #[.slice au l.length cu], .int .i64 x] W fun e w' => e = .returned (strV (fmtS l x)) ∧ On W0 w' :=
  (iFmtS W au l _ cu x rfl (by omega) (o.ints hi) B (Nat.le_trans hB (Below.size o)) (o.tab hB ht)).mono fun _ _ h => ⟨h.1, o.step h.2⟩
theorem qsIs {W0 W : World} {au : Option Addr} {cu : Nat} {l : List Int} {x : Int} (hi : Ints W0 au l) (hl : l.length ≤ 4) (o : On W0 W) :
    Calls Tryz.prog 11 #[.agg #[.slice au l.length cu], .int .i64 x] W fun e w' => e = .returned (.bool (isS l x)) ∧ On W0 w' :=
  (sIsSet W au l _ cu x rfl (by omega) (o.ints hi)).mono fun _ _ h => ⟨h.1, o.step h.2⟩
theorem qiIs {W0 W : World} {au : Option Addr} {cu : Nat} {l : List Int} {x : Int} (hi : Ints W0 au l) (hl : l.length ≤ 4) (o : On W0 W) :
    Calls Tryz.prog 12 #[.agg #[.slice au l.length cu], .int .i64 x] W fun e w' => e = .returned (.bool (isS l x)) ∧ On W0 w' :=
  (iIsSet W au l _ cu x rfl (by omega) (o.ints hi)).mono fun _ _ h => ⟨h.1, o.step h.2⟩
theorem qsCnt {W0 W : World} {au : Option Addr} {cu : Nat} {l : List Int} {x : Int} (hi : Ints W0 au l) (hl : l.length ≤ 4) (o : On W0 W) :
    Calls Tryz.prog 16 #[.agg #[.slice au l.length cu], .int .i64 x] W fun e w' => e = .returned (.int .i64 (cntE l x)) ∧ On W0 w' :=
  (sCount W au l _ cu x rfl (by omega) (o.ints hi)).mono fun _ _ h => ⟨h.1, o.step h.2⟩
theorem qiCnt {W0 W : World} {au : Option Addr} {cu : Nat} {l : List Int} {x : Int} (hi : Ints W0 au l) (hl : l.length ≤ 4) (o : On W0 W) :
    Calls Tryz.prog 15 #[.agg #[.slice au l.length cu], .int .i64 x] W fun e w' => e = .returned (.int .i64 (cntE l x)) ∧ On W0 w' :=
  (iCount W au l _ cu x rfl (by omega) (o.ints hi)).mono fun _ _ h => ⟨h.1, o.step h.2⟩
theorem qsNeg {W0 W : World} {au : Option Addr} {cu : Nat} {l : List Int} {x : Int} (hi : Ints W0 au l) (hl : l.length ≤ 4) (o : On W0 W) :
    Calls Tryz.prog 18 #[.agg #[.slice au l.length cu], .int .i64 x] W fun e w' => e = .returned (.int .i64 (ngE l x)) ∧ On W0 w' :=
  (sNegS W au l _ cu x rfl (by omega) (o.ints hi)).mono fun _ _ h => ⟨h.1, o.step h.2⟩
theorem qiNeg {W0 W : World} {au : Option Addr} {cu : Nat} {l : List Int} {x : Int} {B : Nat} (hi : Ints W0 au l) (hl : l.length ≤ 4) (hB : B ≤ W0.heap.size) (ht : TabZ B W0) (o : On W0 W) :
    Calls Tryz.prog 17 #[.agg #[.slice au l.length cu], .int .i64 x] W fun e w' => e = .returned (.int .i64 (ngE l x)) ∧ On W0 w' :=
  (iNegS W au l _ cu x rfl (by omega) (o.ints hi) B (Nat.le_trans hB (Below.size o)) (o.tab hB ht)).mono fun _ _ h => ⟨h.1, o.step h.2⟩
theorem qsSh {W0 W : World} {au : Option Addr} {cu : Nat} {l : List Int} {x y : Int} (hi : Ints W0 au l) (hl : l.length ≤ 4) (o : On W0 W) :
    Calls Tryz.prog 21 #[.agg #[.slice au l.length cu], .int .i64 x, .int .i64 y] W fun e w' => e = .returned (.int .i64 (shE l x y)) ∧ On W0 w' :=
  (sShift W au l _ cu x y rfl (by omega) (o.ints hi)).mono fun _ _ h => ⟨h.1, o.step h.2⟩
theorem qiSh {W0 W : World} {au : Option Addr} {cu : Nat} {l : List Int} {x y : Int} {B : Nat} (hi : Ints W0 au l) (hl : l.length ≤ 4) (_hB : B ≤ W0.heap.size) (_ht : TabZ B W0) (o : On W0 W) :
    Calls Tryz.prog 20 #[.agg #[.slice au l.length cu], .int .i64 x, .int .i64 y] W fun e w' => e = .returned (.int .i64 (shE l x y)) ∧ On W0 w' :=
  (iShiftS W au l _ cu x y rfl (by omega) (o.ints hi)).mono fun _ _ h => ⟨h.1, o.step h.2⟩
theorem qsDil {W0 W : World} {au : Option Addr} {cu : Nat} {l : List Int} {x y : Int} (hi : Ints W0 au l) (hl : l.length ≤ 4) (o : On W0 W) :
    Calls Tryz.prog 30 #[.agg #[.slice au l.length cu], .int .i64 x, .int .i64 y] W fun e w' => e = .returned (.int .i64 (dlE l x y)) ∧ On W0 w' :=
  (sDil W au l _ cu x y rfl (by omega) (o.ints hi)).mono fun _ _ h => ⟨h.1, o.step h.2⟩
theorem qiDil {W0 W : World} {au : Option Addr} {cu : Nat} {l : List Int} {x y : Int} {B : Nat} (hi : Ints W0 au l) (hl : l.length ≤ 4) (hB : B ≤ W0.heap.size) (ht : TabZ B W0) (o : On W0 W) :
    Calls Tryz.prog 29 #[.agg #[.slice au l.length cu], .int .i64 x, .int .i64 y] W fun e w' => e = .returned (.int .i64 (dlE l x y)) ∧ On W0 w' :=
  (iDil W au l _ cu x y rfl (by omega) (o.ints hi) B (Nat.le_trans hB (Below.size o)) (o.tab hB ht)).mono fun _ _ h => ⟨h.1, o.step h.2⟩
theorem qsFull {W0 W : World} {au : Option Addr} {cu : Nat} {l : List Int} (hi : Ints W0 au l) (hl : l.length ≤ 4) (o : On W0 W) :
    Calls Tryz.prog 32 #[.agg #[.slice au l.length cu]] W fun e w' => e = .returned (.int .i64 (fullE l)) ∧ On W0 w' :=
  (sFullE W au l _ cu  rfl (by omega) (o.ints hi)).mono fun _ _ h => ⟨h.1, o.step h.2⟩
theorem qiFull {W0 W : World} {au : Option Addr} {cu : Nat} {l : List Int} (hi : Ints W0 au l) (hl : l.length ≤ 4) (o : On W0 W) :
    Calls Tryz.prog 31 #[.agg #[.slice au l.length cu]] W fun e w' => e = .returned (.int .i64 (fullE l)) ∧ On W0 w' :=
  (iFullE W au l _ cu  rfl (by omega) (o.ints hi)).mono fun _ _ h => ⟨h.1, o.step h.2⟩
theorem qsNegE {W0 W : World} {au : Option Addr} {cu : Nat} {l : List Int} {x : Int} (hi : Ints W0 au l) (hl : l.length ≤ 4) (o : On W0 W) :
    Calls Tryz.prog 22 #[.agg #[.slice au l.length cu], .int .i64 x] W fun e w' => e = .returned (.int .i64 (negE l x)) ∧ On W0 w' :=
  (sNegE W au l _ cu x rfl (by omega) (o.ints hi)).mono fun _ _ h => ⟨h.1, o.step h.2⟩
theorem qsList {W0 W : World} {au : Option Addr} {cu : Nat} {l : List Int} {x : Int} (hi : Ints W0 au l) (hl : l.length ≤ 4) (o : On W0 W) :
    Calls Tryz.prog 14 #[.agg #[.slice au l.length cu], .int .i64 x] W fun e w' => ∃ a9 c9, e = .returned (.slice a9 (lstE l x).length c9) ∧ Ints w' a9 (lstE l x) ∧ On W0 w' :=
  (sList W au l _ cu x rfl (by omega) (o.ints hi)).mono fun _ _ ⟨v, he, ho, hb⟩ => by
    obtain ⟨a9, c9, rfl⟩ := own_slice' rfl ho
    exact ⟨a9, c9, he, own_ints' rfl ho, o.step hb⟩
theorem qiList {W0 W : World} {au : Option Addr} {cu : Nat} {l : List Int} {x : Int} {B : Nat} (hi : Ints W0 au l) (hl : l.length ≤ 4) (hB : B ≤ W0.heap.size) (ht : TabZ B W0) (o : On W0 W) :
    Calls Tryz.prog 8 #[.agg #[.slice au l.length cu], .int .i64 x] W fun e w' => ∃ a9 c9, e = .returned (.slice a9 (lstE l x).length c9) ∧ Ints w' a9 (lstE l x) ∧ On W0 w' :=
  (iListOf W au l _ cu x rfl (by omega) (o.ints hi) B (Nat.le_trans hB (Below.size o)) (o.tab hB ht)).mono fun _ _ ⟨v, he, ho, hb⟩ => by
    obtain ⟨a9, c9, rfl⟩ := own_slice' rfl ho
    exact ⟨a9, c9, he, own_ints' rfl ho, o.step hb⟩
theorem qsSetOf {W0 W : World} {au a2 : Option Addr} {cu c2 : Nat} {l p : List Int} (hi : Ints W0 au l) (hl : l.length ≤ 4) (hp : p.length ≤ 1048576) (hj : Ints W a2 p) (o : On W0 W) :
    Calls Tryz.prog 26 #[.agg #[.slice au l.length cu], .slice a2 p.length c2] W fun e w' => e = .returned (.tuple #[.int .i64 (setV l p), .bool (setB l p)]) ∧ On W0 w' :=
  (sSetOf W au l _ cu a2 p _ c2 rfl (by omega) (o.ints hi) rfl hp hj).mono fun _ _ h => ⟨h.1, o.step h.2⟩
theorem qiSetOf {W0 W : World} {au a2 : Option Addr} {cu c2 : Nat} {l p : List Int} (hi : Ints W0 au l) (hl : l.length ≤ 4) (hp : p.length ≤ 1048576) (hj : Ints W a2 p) (o : On W0 W) :
    Calls Tryz.prog 9 #[.agg #[.slice au l.length cu], .slice a2 p.length c2] W fun e w' => e = .returned (.tuple #[.int .i64 (setV l p), .bool (setB l p)]) ∧ On W0 w' :=
  (iSetOf W au l _ cu a2 p _ c2 rfl (by omega) (o.ints hi) rfl hp hj).mono fun _ _ h => ⟨h.1, o.step h.2⟩
theorem qsPar {W0 W : World} {au : Option Addr} {cu : Nat} {l : List Int} {s : ByteArray} (hi : Ints W0 au l) (hl : l.length ≤ 4) (hs : s.size ≤ 1048576) (o : On W0 W) :
    Calls Tryz.prog 24 #[.agg #[.slice au l.length cu], .string s] W fun e w' => e = .returned (.tuple #[.int .i64 (((specPS l s.data.toList).getD 0 : Nat) : Int), .bool (specPS l s.data.toList).isSome]) ∧ On W0 w' :=
  (sParS W au l _ cu s rfl (by omega) (o.ints hi) hs).mono fun _ _ h => ⟨h.1, o.step h.2⟩
theorem qiPar {W0 W : World} {au : Option Addr} {cu B : Nat} {l : List Int} {s : ByteArray} {m : Int} (hi : Ints W0 au l) (hl : l.length ≤ 4) (hB : B ≤ W0.heap.size) (hs : s.size ≤ 1048576) (hv : W0.cell? ⟨0, 0, none⟩ = some (.int .i64 m)) (ht : TabOn B W0) (o : On W0 W) :
    Calls Tryz.prog 7 #[.agg #[.slice au l.length cu], .string s] W fun e w' => e = .returned (.tuple #[.int .i64 (((specPS l s.data.toList).getD 0 : Nat) : Int), .bool (specPS l s.data.toList).isSome]) ∧ On W0 w' := by
  have h := iParS W au l _ cu s m rfl (by omega) (o.ints hi) hs (o.cell hv) ((ht.on (Below.mono o hB)).up (Nat.le_trans hB (Below.size o)))
  rw [both_sets] at h
  exact h.mono fun _ _ h => ⟨h.1, o.step h.2⟩
theorem qiParF {W0 W : World} {au : Option Addr} {cu B : Nat} {l : List Int} {x m : Int} {b : Bool} (hb : isS l x = b) (hi : Ints W0 au l) (hl : l.length ≤ 4) (hB : B ≤ W0.heap.size) (hv : W0.cell? ⟨0, 0, none⟩ = some (.int .i64 m)) (ht : TabOn B W0) (o : On W0 W) :
    Calls Tryz.prog 7 #[.agg #[.slice au l.length cu], strV (fmtS l x)] W fun e w' => e = .returned (.tuple #[.int .i64 (if b = true then x else 0), .bool b]) ∧ On W0 w' := by
  have h := qiPar (cu := cu) (s := bs (fmtS l x)) hi hl hB (by rw [bs_size]; have := fmt_len l x; omega) hv ht o
  rw [show (bs (fmtS l x)).data.toList = fmtS l x from bs_list2 _, parse_fmt, hb] at h
  refine h.mono fun _ _ h => ⟨?_, h.2⟩
  rw [h.1]
  cases b with
  | false => rfl
  | true =>
    obtain ⟨_, m', rfl, _, _⟩ := isS_true hb
    rfl
theorem qSame {W0 W : World} {a b : Option Addr} {ca cb : Nat} {p : List Int} (hp : p.length ≤ 1048576) (hi : Ints W a p) (hj : Ints W b p) (o : On W0 W) :
    Calls Tryz.prog 13 #[.slice a p.length ca, .slice b p.length cb] W fun e w' => e = .returned (.bool true) ∧ On W0 w' :=
  (sameInts_same W a b p _ ca cb rfl hp hi hj).mono fun _ _ h => ⟨h.1, o.step h.2⟩
end Go.Proofs.YtkejpikhlejmaaaGreatDoor
