/- The contracts of chapter 4 as a long walk uses them: in any world that keeps what stood at its beginning. -/
import Derived.Test.YtkejpikhlejmaaaDoorOn
import Derived.Test.YtkejpikhlejmaaaDoorSumC
import Derived.Test.YtkejpikhlejmaaaDoorSumTab
import Derived.Test.YtkejpikhlejmaaaDoorSumL
import Derived.Test.YtkejpikhlejmaaaDoorSumAx
namespace Go.Proofs.YtkejpikhlejmaaaDoor
open Go.RowKit
set_option maxRecDepth 1000000
theorem qsRst {W0 W : World} {au : Option Addr} {cu : Nat} {l : List Int} {x y : Int} (hi : Ints W0 au l) (hl : l.length ≤ 4) (o : On W0 W) :
    Calls Tryd.prog 20 #[.agg #[.slice au l.length cu], .int .i64 x, .int .i64 y] W fun e w' => e = .returned (.int .i64 (rstE l x y)) ∧ On W0 w' :=
  (sRst W au l _ cu x y rfl (by omega) (o.ints hi)).mono fun _ _ h => ⟨h.1, o.step h.2⟩
theorem qiRst {W0 W : World} {au : Option Addr} {cu : Nat} {l : List Int} {x y : Int} {B : Nat} (hi : Ints W0 au l) (hl : l.length ≤ 4) (hB : B ≤ W0.heap.size) (ht : TabZ B W0) (o : On W0 W) :
    Calls Tryd.prog 17 #[.agg #[.slice au l.length cu], .int .i64 x, .int .i64 y] W fun e w' => e = .returned (.int .i64 (rstE l x y)) ∧ On W0 w' :=
  (iRst W au l _ cu x y rfl (by omega) (o.ints hi) B (Nat.le_trans hB (Below.size o)) (o.tab hB ht)).mono fun _ _ h => ⟨h.1, o.step h.2⟩
theorem qsSum {W0 W : World} {au : Option Addr} {cu : Nat} {l : List Int} {x y : Int} (hi : Ints W0 au l) (hl : l.length ≤ 4) (o : On W0 W) :
    Calls Tryd.prog 18 #[.agg #[.slice au l.length cu], .int .i64 x, .int .i64 y] W fun e w' => e = .returned (.int .i64 (sumE l x y)) ∧ On W0 w' :=
  (sSum W au l _ cu x y rfl (by omega) (o.ints hi)).mono fun _ _ h => ⟨h.1, o.step h.2⟩
theorem qiSum {W0 W : World} {au : Option Addr} {cu : Nat} {l : List Int} {x y : Int} {B : Nat} (hi : Ints W0 au l) (hl : l.length ≤ 4) (hB : B ≤ W0.heap.size) (ht : TabZ B W0) (o : On W0 W) :
    Calls Tryd.prog 22 #[.agg #[.slice au l.length cu], .int .i64 x, .int .i64 y] W fun e w' => e = .returned (.int .i64 (sumE l x y)) ∧ On W0 w' :=
  (iSumS W au l _ cu x y rfl (by omega) (o.ints hi) B (Nat.le_trans hB (Below.size o)) (o.tab hB ht)).mono fun _ _ h => ⟨h.1, o.step h.2⟩
theorem qsDif {W0 W : World} {au : Option Addr} {cu : Nat} {l : List Int} {x y : Int} (hi : Ints W0 au l) (hl : l.length ≤ 4) (o : On W0 W) :
    Calls Tryd.prog 21 #[.agg #[.slice au l.length cu], .int .i64 x, .int .i64 y] W fun e w' => e = .returned (.int .i64 (difE l x y)) ∧ On W0 w' :=
  (sDif W au l _ cu x y rfl (by omega) (o.ints hi)).mono fun _ _ h => ⟨h.1, o.step h.2⟩
theorem qiDif {W0 W : World} {au : Option Addr} {cu : Nat} {l : List Int} {x y : Int} {B : Nat} (hi : Ints W0 au l) (hl : l.length ≤ 4) (hB : B ≤ W0.heap.size) (ht : TabZ B W0) (o : On W0 W) :
    Calls Tryd.prog 19 #[.agg #[.slice au l.length cu], .int .i64 x, .int .i64 y] W fun e w' => e = .returned (.int .i64 (difE l x y)) ∧ On W0 w' :=
  (iDifS W au l _ cu x y rfl (by omega) (o.ints hi) B (Nat.le_trans hB (Below.size o)) (o.tab hB ht)).mono fun _ _ h => ⟨h.1, o.step h.2⟩
theorem qtNeg {W0 W : World} {au : Option Addr} {cu : Nat} {l : List Int} {x : Int} {B : Nat} (hi : Ints W0 au l) (hl : l.length ≤ 4) (hB : B ≤ W0.heap.size) (ht : TabZ B W0) (o : On W0 W) :
    Calls Tryd.prog 23 #[.agg #[.slice au l.length cu], .int .i64 x] W fun e w' => e = .returned (.int .i64 (ngE l x)) ∧ On W0 w' :=
  (iNegS W au l _ cu x rfl (by omega) (o.ints hi) B (Nat.le_trans hB (Below.size o)) (o.tab hB ht)).mono fun _ _ h => ⟨h.1, o.step h.2⟩
theorem qsMlt {W0 W : World} {au : Option Addr} {cu : Nat} {l : List Int} {x y : Int} (hi : Ints W0 au l) (hl : l.length ≤ 4) (o : On W0 W) :
    Calls Tryd.prog 26 #[.agg #[.slice au l.length cu], .int .i64 x, .int .i64 y] W fun e w' => e = .returned (.int .i64 (mltE l x y)) ∧ On W0 w' :=
  (sMult W au l _ cu x y rfl (by omega) (o.ints hi)).mono fun _ _ h => ⟨h.1, o.step h.2⟩
theorem qiMlt {W0 W : World} {au : Option Addr} {cu : Nat} {l : List Int} {x y : Int} {B : Nat} (hi : Ints W0 au l) (hl : l.length ≤ 4) (hB : B ≤ W0.heap.size) (ht : TabZ B W0) (o : On W0 W) :
    Calls Tryd.prog 25 #[.agg #[.slice au l.length cu], .int .i64 x, .int .i64 y] W fun e w' => e = .returned (.int .i64 (mltE l x y)) ∧ On W0 w' :=
  (iMult W au l _ cu x y rfl (by omega) (o.ints hi) B (Nat.le_trans hB (Below.size o)) (o.tab hB ht)).mono fun _ _ h => ⟨h.1, o.step h.2⟩
theorem qsCnS {W0 W : World} {au : Option Addr} {cu : Nat} {l : List Int} {x y z : Int} (hi : Ints W0 au l) (hl : l.length ≤ 4) (o : On W0 W) :
    Calls Tryd.prog 31 #[.agg #[.slice au l.length cu], .int .i64 x, .int .i64 y, .int .i64 z] W fun e w' => e = .returned (.int .i64 (cntS l x y z)) ∧ On W0 w' :=
  (sCntS W au l _ cu x y z rfl (by omega) (o.ints hi)).mono fun _ _ h => ⟨h.1, o.step h.2⟩
theorem qiCnS {W0 W : World} {au : Option Addr} {cu : Nat} {l : List Int} {x y z : Int} {B : Nat} (hi : Ints W0 au l) (hl : l.length ≤ 4) (hB : B ≤ W0.heap.size) (ht : TabZ B W0) (o : On W0 W) :
    Calls Tryd.prog 30 #[.agg #[.slice au l.length cu], .int .i64 x, .int .i64 y, .int .i64 z] W fun e w' => e = .returned (.int .i64 (cntS l x y z)) ∧ On W0 w' :=
  (iCntS W au l _ cu x y z rfl (by omega) (o.ints hi) B (Nat.le_trans hB (Below.size o)) (o.tab hB ht)).mono fun _ _ h => ⟨h.1, o.step h.2⟩
theorem qsSub {W0 W : World} {au : Option Addr} {cu : Nat} {l : List Int} {x : Int} (hi : Ints W0 au l) (hl : l.length ≤ 4) (o : On W0 W) :
    Calls Tryd.prog 32 #[.agg #[.slice au l.length cu], .int .i64 x] W fun e w' => e = .returned (.int .i64 (subE l x)) ∧ On W0 w' :=
  (sSub W au l _ cu x rfl (by omega) (o.ints hi)).mono fun _ _ h => ⟨h.1, o.step h.2⟩
theorem qiSub {W0 W : World} {au : Option Addr} {cu : Nat} {l : List Int} {x : Int} {B : Nat} (hi : Ints W0 au l) (hl : l.length ≤ 4) (hB : B ≤ W0.heap.size) (ht : TabZ B W0) (o : On W0 W) :
    Calls Tryd.prog 29 #[.agg #[.slice au l.length cu], .int .i64 x] W fun e w' => e = .returned (.int .i64 (subE l x)) ∧ On W0 w' :=
  (iSub W au l _ cu x rfl (by omega) (o.ints hi) B (Nat.le_trans hB (Below.size o)) (o.tab hB ht)).mono fun _ _ h => ⟨h.1, o.step h.2⟩
end Go.Proofs.YtkejpikhlejmaaaDoor
