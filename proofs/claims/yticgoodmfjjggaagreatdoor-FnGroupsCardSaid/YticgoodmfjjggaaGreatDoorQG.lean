/- The contracts of chapter 2 as a long walk uses them: in any world that keeps what stood at its beginning. -/
import Derived.Test.YticgoodmfjjggaaGreatDoorOn
import Derived.Test.YticgoodmfjjggaaGreatDoorGrpFun
import Derived.Test.YticgoodmfjjggaaGreatDoorGrpMul
import Derived.Test.YticgoodmfjjggaaGreatDoorGrpExp
import Derived.Test.YticgoodmfjjggaaGreatDoorGrpPl
import Derived.Test.YticgoodmfjjggaaGreatDoorGrpEl
import Derived.Test.YticgoodmfjjggaaGreatDoorEqGI
import Derived.Test.YticgoodmfjjggaaGreatDoorGrpAx3
import Derived.Test.YticgoodmfjjggaaGreatDoorFmtGI
import Derived.Test.YticgoodmfjjggaaGreatDoorParGI
import Derived.Test.YticgoodmfjjggaaGreatDoorParGS
import Derived.Test.YticgoodmfjjggaaGreatDoorDGRA
import Derived.Test.YticgoodmfjjggaaGreatDoorDELA
namespace Go.Proofs.YticgoodmfjjggaaGreatDoor
open Go.RowKit
set_option maxRecDepth 1000000
theorem gsAdd {W0 W : World} {au : Option Addr} {cu : Nat} {l : List Int} {x y : Int} (hi : Ints W0 au l) (hl : l.length ≤ 4) (o : On W0 W) :
    Calls Tryz.prog 9 #[.agg #[.slice au l.length cu], .int .i64 x, .int .i64 y] W fun e w' => e = .returned (.int .i64 (addE l x y)) ∧ On W0 w' :=
  (sAddE W au l _ cu x y rfl (by omega) (o.ints hi)).mono fun _ _ h => ⟨h.1, o.step h.2⟩
theorem giAdd {W0 W : World} {au : Option Addr} {cu : Nat} {l : List Int} {x y : Int} (hi : Ints W0 au l) (hl : l.length ≤ 4) (o : On W0 W) :
    Calls Tryz.prog 7 #[.agg #[.slice au l.length cu], .int .i64 x, .int .i64 y] W fun e w' => e = .returned (.int .i64 (addE l x y)) ∧ On W0 w' :=
  (iAddE W au l _ cu x y rfl (by omega) (o.ints hi)).mono fun _ _ h => ⟨h.1, o.step h.2⟩
theorem gsOrder {W0 W : World} {au : Option Addr} {cu : Nat} {l : List Int} (hi : Ints W0 au l) (hl : l.length ≤ 4) (o : On W0 W) :
    Calls Tryz.prog 10 #[.agg #[.slice au l.length cu]] W fun e w' => e = .returned (.int .i64 (ordN l)) ∧ On W0 w' :=
  (sOrderOf W au l _ cu  rfl (by omega) (o.ints hi)).mono fun _ _ h => ⟨h.1, o.step h.2⟩
theorem giOrder {W0 W : World} {au : Option Addr} {cu : Nat} {l : List Int} (hi : Ints W0 au l) (hl : l.length ≤ 4) (o : On W0 W) :
    Calls Tryz.prog 8 #[.agg #[.slice au l.length cu]] W fun e w' => e = .returned (.int .i64 (ordN l)) ∧ On W0 w' :=
  (iOrderOf W au l _ cu  rfl (by omega) (o.ints hi)).mono fun _ _ h => ⟨h.1, o.step h.2⟩
theorem gsExp {W0 W : World} {au : Option Addr} {cu : Nat} {l : List Int} (hi : Ints W0 au l) (hl : l.length ≤ 4) (o : On W0 W) :
    Calls Tryz.prog 12 #[.agg #[.slice au l.length cu]] W fun e w' => e = .returned (.int .i64 (expE l)) ∧ On W0 w' :=
  (sExp W au l _ cu  rfl (by omega) (o.ints hi)).mono fun _ _ h => ⟨h.1, o.step h.2⟩
theorem giExp {W0 W : World} {au : Option Addr} {cu : Nat} {l : List Int} (hi : Ints W0 au l) (hl : l.length ≤ 4) (o : On W0 W) :
    Calls Tryz.prog 11 #[.agg #[.slice au l.length cu]] W fun e w' => e = .returned (.int .i64 (expE l)) ∧ On W0 w' :=
  (iExp W au l _ cu  rfl (by omega) (o.ints hi)).mono fun _ _ h => ⟨h.1, o.step h.2⟩
theorem gsNeg {W0 W : World} {au : Option Addr} {cu : Nat} {l : List Int} {x : Int} (hi : Ints W0 au l) (hl : l.length ≤ 4) (o : On W0 W) :
    Calls Tryz.prog 36 #[.agg #[.slice au l.length cu], .int .i64 x] W fun e w' => e = .returned (.int .i64 (negE l x)) ∧ On W0 w' :=
  (sNegE W au l _ cu x rfl (by omega) (o.ints hi)).mono fun _ _ h => ⟨h.1, o.step h.2⟩
theorem giNeg {W0 W : World} {au : Option Addr} {cu : Nat} {l : List Int} {x : Int} (hi : Ints W0 au l) (hl : l.length ≤ 4) (o : On W0 W) :
    Calls Tryz.prog 13 #[.agg #[.slice au l.length cu], .int .i64 x] W fun e w' => e = .returned (.int .i64 (negE l x)) ∧ On W0 w' :=
  (iNegE W au l _ cu x rfl (by omega) (o.ints hi)).mono fun _ _ h => ⟨h.1, o.step h.2⟩
theorem gsMul {W0 W : World} {au : Option Addr} {cu : Nat} {l : List Int} {x y : Int} (hi : Ints W0 au l) (hl : l.length ≤ 4) (o : On W0 W) :
    Calls Tryz.prog 34 #[.agg #[.slice au l.length cu], .int .i64 x, .int .i64 y] W fun e w' => e = .returned (.int .i64 (mulE l x y)) ∧ On W0 w' :=
  (sMulE W au l _ cu x y rfl (by omega) (o.ints hi)).mono fun _ _ h => ⟨h.1, o.step h.2⟩
theorem giMul {W0 W : World} {au : Option Addr} {cu : Nat} {l : List Int} {x y : Int} (hi : Ints W0 au l) (hl : l.length ≤ 4) (o : On W0 W) :
    Calls Tryz.prog 18 #[.agg #[.slice au l.length cu], .int .i64 x, .int .i64 y] W fun e w' => e = .returned (.int .i64 (mulE l x y)) ∧ On W0 w' :=
  (iMulE W au l _ cu x y rfl (by omega) (o.ints hi)).mono fun _ _ h => ⟨h.1, o.step h.2⟩
theorem gsOrd {W0 W : World} {au : Option Addr} {cu : Nat} {l : List Int} {x : Int} {m : Nat} (hi : Ints W0 au l) (hl : l.length ≤ 4) (ho : OrdX l x m) (o : On W0 W) :
    Calls Tryz.prog 35 #[.agg #[.slice au l.length cu], .int .i64 x] W fun e w' => e = .returned (.int .i64 m) ∧ On W0 w' :=
  (sOrdX W au l _ cu x m rfl (by omega) (o.ints hi) ho).mono fun _ _ h => ⟨h.1, o.step h.2⟩
theorem giOrd {W0 W : World} {au : Option Addr} {cu : Nat} {l : List Int} {x : Int} {m : Nat} (hi : Ints W0 au l) (hl : l.length ≤ 4) (ho : OrdX l x m) (o : On W0 W) :
    Calls Tryz.prog 15 #[.agg #[.slice au l.length cu], .int .i64 x] W fun e w' => e = .returned (.int .i64 m) ∧ On W0 w' :=
  (iOrd W au l _ cu x m rfl (by omega) (o.ints hi) ho).mono fun _ _ h => ⟨h.1, o.step h.2⟩
theorem gsFmt {W0 W : World} {au : Option Addr} {cu : Nat} {l : List Int} (hi : Ints W0 au l) (hl : l.length ≤ 4) (o : On W0 W) :
    Calls Tryz.prog 23 #[.agg #[.slice au l.length cu]] W fun e w' => e = .returned (strV (fmtG l)) ∧ On W0 w' :=
  (sFmtG W au l _ cu  rfl (by omega) (o.ints hi)).mono fun _ _ h => ⟨h.1, o.step h.2⟩
theorem giFmt {W0 W : World} {au : Option Addr} {cu : Nat} {l : List Int} (hi : Ints W0 au l) (hl : l.length ≤ 4) (o : On W0 W) :
    Calls Tryz.prog 19 #[.agg #[.slice au l.length cu]] W fun e w' => e = .returned (strV (fmtG l)) ∧ On W0 w' :=
  (iFmtG W au l _ cu  rfl (by omega) (o.ints hi)).mono fun _ _ h => ⟨h.1, o.step h.2⟩
theorem gsIs {W0 W : World} {au : Option Addr} {cu : Nat} {l : List Int} (hi : Ints W0 au l) (hl : l.length ≤ 4) (o : On W0 W) :
    Calls Tryz.prog 24 #[.agg #[.slice au l.length cu]] W fun e w' => e = .returned (.bool (grpB l)) ∧ On W0 w' :=
  (sIsGroup W au l _ cu  rfl (by omega) (o.ints hi)).mono fun _ _ h => ⟨h.1, o.step h.2⟩
theorem giIs {W0 W : World} {au : Option Addr} {cu : Nat} {l : List Int} (hi : Ints W0 au l) (hl : l.length ≤ 4) (o : On W0 W) :
    Calls Tryz.prog 25 #[.agg #[.slice au l.length cu]] W fun e w' => e = .returned (.bool (grpB l)) ∧ On W0 w' :=
  (iIsGroup W au l _ cu  rfl (by omega) (o.ints hi)).mono fun _ _ h => ⟨h.1, o.step h.2⟩
theorem gsPl {W0 W : World} {au : Option Addr} {cu : Nat} {l : List Int} {x : Int} (hi : Ints W0 au l) (hl : l.length ≤ 4) (o : On W0 W) :
    Calls Tryz.prog 33 #[.agg #[.slice au l.length cu], .int .i64 x] W fun e w' => ∃ a9 c9, e = .returned (.slice a9 (plc l x).length c9) ∧ Ints w' a9 (plc l x) ∧ On W0 w' ∧ On W w' :=
  (sPlaces W au l _ cu x rfl (by omega) (o.ints hi)).mono fun _ _ ⟨v, he, ho, hb⟩ => by
    obtain ⟨a9, c9, rfl⟩ := own_slice' rfl ho
    exact ⟨a9, c9, he, own_ints' rfl ho, o.step hb, hb⟩
theorem giPl {W0 W : World} {au : Option Addr} {cu : Nat} {l : List Int} {x : Int} (hi : Ints W0 au l) (hl : l.length ≤ 4) (o : On W0 W) :
    Calls Tryz.prog 17 #[.agg #[.slice au l.length cu], .int .i64 x] W fun e w' => ∃ a9 c9, e = .returned (.slice a9 (plc l x).length c9) ∧ Ints w' a9 (plc l x) ∧ On W0 w' ∧ On W w' :=
  (iPlaces' W au l _ cu x rfl (by omega) (o.ints hi)).mono fun _ _ ⟨v, he, ho, hb⟩ => by
    obtain ⟨a9, c9, rfl⟩ := own_slice' rfl ho
    exact ⟨a9, c9, he, own_ints' rfl ho, o.step hb, hb⟩
theorem gsEl {W0 W : World} {au a2 : Option Addr} {cu c2 : Nat} {l p : List Int} (hi : Ints W0 au l) (hl : l.length ≤ 4) (hj : Ints W a2 p) (o : On W0 W) :
    Calls Tryz.prog 29 #[.agg #[.slice au l.length cu], .slice a2 p.length c2] W fun e w' => e = .returned (.tuple #[.int .i64 (elemV l p), .bool (decide (ElemP l p))]) ∧ On W0 w' :=
  (sElem W au l _ cu a2 p _ c2 rfl (by omega) (o.ints hi) rfl hj).mono fun _ _ h => ⟨h.1, o.step h.2⟩
theorem giEl {W0 W : World} {au a2 : Option Addr} {cu c2 : Nat} {l p : List Int} (hi : Ints W0 au l) (hl : l.length ≤ 4) (hj : Ints W a2 p) (o : On W0 W) :
    Calls Tryz.prog 16 #[.agg #[.slice au l.length cu], .slice a2 p.length c2] W fun e w' => e = .returned (.tuple #[.int .i64 (elemV l p), .bool (decide (ElemP l p))]) ∧ On W0 w' :=
  (iElem W au l _ cu a2 p _ c2 rfl (by omega) (o.ints hi) rfl hj).mono fun _ _ h => ⟨h.1, o.step h.2⟩
theorem gsEq {W0 W : World} {au a2 : Option Addr} {cu c2 : Nat} {l p : List Int} (hi : Ints W au l) (hl : l.length ≤ 1048576) (hj : Ints W a2 p) (hp : p.length ≤ 1048576) (o : On W0 W) :
    Calls Tryz.prog 26 #[.agg #[.slice au l.length cu], .agg #[.slice a2 p.length c2]] W fun e w' => e = .returned (.bool (decide (l = p))) ∧ On W0 w' :=
  (sEq W au a2 l p _ cu _ c2 rfl rfl (by omega) (by omega) hi hj).mono fun _ _ h => ⟨h.1, o.step h.2⟩
theorem giEq {W0 W : World} {au a2 : Option Addr} {cu c2 : Nat} {l p : List Int} (hi : Ints W au l) (hl : l.length ≤ 1048576) (hj : Ints W a2 p) (hp : p.length ≤ 1048576) (o : On W0 W) :
    Calls Tryz.prog 37 #[.agg #[.slice au l.length cu], .agg #[.slice a2 p.length c2]] W fun e w' => e = .returned (.bool (decide (l = p))) ∧ On W0 w' :=
  (iEq W au a2 l p _ cu _ c2 rfl rfl (by omega) (by omega) hi hj).mono fun _ _ h => ⟨h.1, o.step h.2⟩
theorem gsEqS {W0 W : World} {au a2 : Option Addr} {cu c2 : Nat} {l : List Int} (hi : Ints W0 au l) (hl : l.length ≤ 4) (hj : Ints W0 a2 l) (o : On W0 W) :
    Calls Tryz.prog 26 #[.agg #[.slice au l.length cu], .agg #[.slice a2 l.length c2]] W fun e w' => e = .returned (.bool true) ∧ On W0 w' :=
  (gsEq (o.ints hi) (by omega) (o.ints hj) (by omega) o).mono fun _ _ h => ⟨by rw [h.1, decide_eq_true rfl], h.2⟩
theorem gSame {W0 W : World} {a b : Option Addr} {ca cb : Nat} {p : List Int} (hp : p.length ≤ 1048576) (hi : Ints W a p) (hj : Ints W b p) (o : On W0 W) :
    Calls Tryz.prog 32 #[.slice a p.length ca, .slice b p.length cb] W fun e w' => e = .returned (.bool true) ∧ On W0 w' :=
  (sameInts_same W a b p _ ca cb rfl hp hi hj).mono fun _ _ h => ⟨h.1, o.step h.2⟩
/-- What a reading of a text tells: the group's row (empty where there is none) and whether. -/
def ReadPost (r : Option (List Int)) (W : World) (e : Ending) (w' : World) : Prop :=
  ∃ a9 c9, e = .returned (.tuple #[.agg #[.slice a9 (r.getD []).length c9], .bool r.isSome]) ∧ w'.ownsRow W.heap.size 3 1 (.slice a9 (r.getD []).length c9) (r.getD []).length ((r.getD []).map (Value.int .i64)) ∧ Below W.heap.size W w'
theorem read_post {r : Option (List Int)} {W : World} {e : Ending} {w' : World} (h : ParsePost r W e w') : ReadPost r W e w' := by
  obtain ⟨u, he, ho, hb⟩ := h
  obtain ⟨a9, c9, rfl⟩ := own_slice' rfl ho
  exact ⟨a9, c9, he, ho, hb⟩
theorem gsPar (W : World) (s : ByteArray) (hs : s.size ≤ 1048576) :
    Calls Tryz.prog 22 #[.string s] W (ReadPost (specR s.data.toList) W) :=
  (sParG s W hs).mono fun _ _ h => read_post h
theorem giPar (W : World) (s : ByteArray) (m : Int) (hs : s.size ≤ 1048576) (hv : W.cell? ⟨0, 0, none⟩ = some (.int .i64 m)) (ht : TabOn W.heap.size W) :
    Calls Tryz.prog 20 #[.string s] W (ReadPost (specR s.data.toList) W) := by
  have h := iParG s m W hs hv ht
  rw [both_read] at h
  exact h.mono fun _ _ h => read_post h
/-- What is written of a group is read as it. -/
theorem giParF (W : World) (l : List Int) (m : Int) (hv : W.cell? ⟨0, 0, none⟩ = some (.int .i64 m)) (ht : TabOn W.heap.size W) :
    Calls Tryz.prog 20 #[strV (fmtG l)] W (ReadPost (if grpB l = true then some l else none) W) := by
  have h := giPar W (bs (fmtG l)) m (by rw [bs_size]; have := fmtG_len l; omega) hv ht
  rw [show (bs (fmtG l)).data.toList = fmtG l from bs_list2 _, group_back] at h
  exact h
theorem ord_len {r : List Int} (h : grpB r = true) : r.length ≤ 3 := (grpB_true h).1
/-- Groups that are read have few orders. -/
theorem read_few (s : List UInt8) : ((specR s).getD []).length ≤ 3 := by
  rw [← both_read]
  unfold implR
  split
  · simp
  · split
    · split
      · next h => exact ord_len h
      · simp
    · simp
end Go.Proofs.YticgoodmfjjggaaGreatDoor
