/- The library's errors.As at the program's own error, a struct of two texts: no error, false; the error itself, true, and the caller's variable is set. The program's isRefused. -/
import Derived.Test.YtaacofbmbpkeoaaDoorGrpIn
import Derived.WalkKit
import Derived.LaidEql
import Derived.Stop.Asserts
import Derived.RowKitTokens
import Derived.Lib.ReflectliteSwap
namespace Go.Proofs.YtaacofbmbpkeoaaDoor
open Go.RowKit Go.Extern.Stop Go.Stop Go.Extern
set_option maxRecDepth 1000000
/-- How many package-level variables the program has: a type's handle points behind them. -/
noncomputable def gN : Nat := Tryd.prog.globals.size
/-- The library's variable errorType holds its handle, below block B. -/
def ErrB (B : Nat) (w : World) : Prop := 0 < B ∧ w.cell? ⟨0, 0, none⟩ = some (.iface 99 (.agg #[.pointer (some ⟨gN, 47, none⟩)]))
theorem ErrB.on {B : Nat} {w w1 : World} (h : ErrB B w) (hb : Below B w w1) : ErrB B w1 := ⟨h.1, keepC hb h.1 h.2⟩
theorem er_nil (t : Value) (w : World) : Calls Tryd.prog 54 #[.nilIface, t] w fun e w' => e = .returned (.bool false) ∧ w = w' := by
  go_enter Tryd.func54, Tryd.ntmps54
  go_wp2
  go_ret
  exact ⟨rfl, rfl⟩
theorem er_vP (t : Addr) (w : World) : (ReflectliteValue.unpack (.iface 69 (.pointer (some t)))).run Tryd.prog w
    = .ok (.agg #[.pointer (some ⟨gN, 69, none⟩), .pointer (some ⟨w.heap.size, 0, none⟩), .int .u64 150]) (w.alloc (.cells #[.pointer (some t)] 69)) := by kernel_rfl
theorem er_tP (a : Addr) (w : World) : (ReflectliteValue.methodAny (ReflectliteValue.valueError "reflectlite.Value.Type" 0) (fun t _ _ _ => ReflectliteType.toType t) #[.agg #[.pointer (some ⟨gN, 69, none⟩), .pointer (some a), .int .u64 150]]).run Tryd.prog w
    = .ok (.iface 99 (.agg #[.pointer (some ⟨gN, 69, none⟩)])) w := by kernel_rfl
theorem er_kP (w : World) : ((ReflectliteType.abiMethod fun t => (fun a : Nat => Value.int IntKind.u8 (a : Int)) <$> Rtype.kind t) #[.pointer (some ⟨gN, 69, none⟩)]).run Tryd.prog w = .ok (.int .u8 22) w := by kernel_rfl
theorem er_kS (w : World) : ((ReflectliteType.abiMethod fun t => (fun a : Nat => Value.int IntKind.u8 (a : Int)) <$> Rtype.kind t) #[.pointer (some ⟨gN, 67, none⟩)]).run Tryd.prog w = .ok (.int .u8 25) w := by kernel_rfl
/-- An entry that first asks for the parts of a Value. -/
theorem er_one {S : Sem Value} {v : Value} {T : TypeId} {a : Addr} {fl : Nat} {W : World} {R : Result Value} (g : Option (TypeId × Addr × Nat) → Sem Value) (h : S = ReflectliteValue.parts v >>= g)
    (hp : (ReflectliteValue.parts v).run Tryd.prog W = .ok (some (T, a, fl)) W) (hr : (g (some (T, a, fl))).run Tryd.prog W = R) : S.run Tryd.prog W = R := by
  rw [h]
  simp only [Sem.run_bind, hp, Result.andThen]
  exact hr
/-- An entry that first asks for the parts of two Values. -/
theorem er_two {S : Sem Value} {v x : Value} {T U : TypeId} {a b : Addr} {fl fk : Nat} {W : World} {R : Result Value} (g : Option (TypeId × Addr × Nat) → Option (TypeId × Addr × Nat) → Sem Value)
    (h : S = ReflectliteValue.parts v >>= fun y => ReflectliteValue.parts x >>= fun z => g y z)
    (hp : (ReflectliteValue.parts v).run Tryd.prog W = .ok (some (T, a, fl)) W) (hq : (ReflectliteValue.parts x).run Tryd.prog W = .ok (some (U, b, fk)) W)
    (hr : (g (some (T, a, fl)) (some (U, b, fk))).run Tryd.prog W = R) : S.run Tryd.prog W = R := by
  rw [h]
  simp only [Sem.run_bind, hp, hq, Result.andThen]
  exact hr
theorem er_pP (a : Addr) (w : World) : (ReflectliteValue.parts (.agg #[.pointer (some ⟨gN, 69, none⟩), .pointer (some a), .int .u64 150])).run Tryd.prog w = .ok (some (69, a, 150)) w := by kernel_rfl
theorem er_nP (a p : Addr) (W : World) (ha : W.cell? a = some (.pointer (some p))) :
    (ReflectliteValue.method (ReflectliteValue.valueError "reflectlite.Value.IsNil" 0) ReflectliteValue.isNil #[.agg #[.pointer (some ⟨gN, 69, none⟩), .pointer (some a), .int .u64 150]]).run Tryd.prog W = .ok (.bool false) W := by
  refine er_one _ rfl (er_pP a W) ?_
  simp [ReflectliteValue.isNil, loadVar, isAgg, underlying, Tryd.underlying69, ha, Result.andThen]
theorem er_eP (w : World) : (ReflectliteType.method ReflectliteType.elem #[.agg #[.pointer (some ⟨gN, 69, none⟩)]]).run Tryd.prog w = .ok (.iface 99 (.agg #[.pointer (some ⟨gN, 67, none⟩)])) w := by kernel_rfl
theorem er_iS (w : World) : (ReflectliteType.relation "Implements" ReflectliteType.implements_ #[.agg #[.pointer (some ⟨gN, 67, none⟩)], .iface 99 (.agg #[.pointer (some ⟨gN, 47, none⟩)])]).run Tryd.prog w = .ok (.bool true) w := by kernel_rfl
theorem er_tS (v : Value) (w : World) : (ReflectliteType.typeOf #[.iface 67 v]).run Tryd.prog w = .ok (.iface 99 (.agg #[.pointer (some ⟨gN, 67, none⟩)])) w := by kernel_rfl
theorem er_aS (w : World) : (ReflectliteType.relation "AssignableTo" ReflectliteType.assignableTo #[.agg #[.pointer (some ⟨gN, 67, none⟩)], .iface 99 (.agg #[.pointer (some ⟨gN, 67, none⟩)])]).run Tryd.prog w = .ok (.bool true) w := by kernel_rfl
theorem er_vS (x y : Value) (w : World) : (ReflectliteValue.unpack (.iface 67 (.agg #[x, y]))).run Tryd.prog w
    = .ok (.agg #[.pointer (some ⟨gN, 67, none⟩), .pointer (some ⟨w.heap.size, 0, none⟩), .int .u64 153]) (w.alloc (.cells #[x, y] 67)) := by kernel_rfl
theorem er_oP (w : World) : (Rtype.elem? 69).run Tryd.prog w = .ok (some 67) w := by kernel_rfl
theorem er_mS (p : Addr) (w : World) : (ReflectliteValue.mk 67 p ReflectliteValue.flagAddr).run Tryd.prog w = .ok (.agg #[.pointer (some ⟨gN, 67, none⟩), .pointer (some p), .int .u64 409]) w := by kernel_rfl
theorem er_lP (a p : Addr) (W : World) (ha : W.cell? a = some (.pointer (some p))) :
    (ReflectliteValue.method (ReflectliteValue.valueError "reflectlite.Value.Elem" 0) ReflectliteValue.elem #[.agg #[.pointer (some ⟨gN, 69, none⟩), .pointer (some a), .int .u64 150]]).run Tryd.prog W
      = .ok (.agg #[.pointer (some ⟨gN, 67, none⟩), .pointer (some p), .int .u64 409]) W := by
  refine er_one _ rfl (er_pP a W) ?_
  simp [ReflectliteValue.elem, loadVar, isAgg, underlying, Tryd.underlying69, ha, Result.andThen, er_oP, er_mS]
theorem er_pSa (a : Addr) (w : World) : (ReflectliteValue.parts (.agg #[.pointer (some ⟨gN, 67, none⟩), .pointer (some a), .int .u64 409])).run Tryd.prog w = .ok (some (67, a, 409)) w := by kernel_rfl
theorem er_pS (a : Addr) (w : World) : (ReflectliteValue.parts (.agg #[.pointer (some ⟨gN, 67, none⟩), .pointer (some a), .int .u64 153])).run Tryd.prog w = .ok (some (67, a, 153)) w := by kernel_rfl
theorem er_dS (w : World) : (Rtype.directlyAssignable 67 67).run Tryd.prog w = .ok true w := by kernel_rfl
theorem er_gS (w : World) : (isAgg 67).run Tryd.prog w = .ok true w := by kernel_rfl
theorem er_zS (w : World) : (sizeOf 67).run Tryd.prog w = .ok 2 w := by kernel_rfl
theorem er_info : ∃ i, Tryd.prog.info? 67 = some i ∧ i.size = 2 := by
  have h : (Tryd.prog.info? 67).isSome = true := by kernel_rfl
  obtain ⟨i, hi⟩ := Option.isSome_iff_exists.1 h
  have h2 : (Tryd.prog.info? 67).map (·.size) = some 2 := by kernel_rfl
  rw [hi] at h2
  exact ⟨i, hi, by simpa using h2⟩
/-- The target's two cells get those of the error. -/
theorem er_sS (tb b : Nat) (x y : ByteArray) (W : World) (hx : W.cell? ⟨b, 0, none⟩ = some (.string x)) (hy : W.cell? ⟨b, 1, none⟩ = some (.string y))
    (h0 : (W.cell? ⟨tb, 0, none⟩).isSome = true) (h1 : (W.cell? ⟨tb, 1, none⟩).isSome = true) (f0 : W.frozen? ⟨tb, 0, none⟩ = false) (f1 : W.frozen? ⟨tb, 1, none⟩ = false) :
    (ReflectliteValue.set #[.agg #[.pointer (some ⟨gN, 67, none⟩), .pointer (some ⟨tb, 0, none⟩), .int .u64 409], .agg #[.pointer (some ⟨gN, 67, none⟩), .pointer (some ⟨b, 0, none⟩), .int .u64 153]]).run Tryd.prog W
      = .ok (.tuple #[]) ((W.setCell ⟨tb, 0, none⟩ (.string x)).setCell ⟨tb, 1, none⟩ (.string y)) := by
  obtain ⟨i, hi, hs⟩ := er_info
  have hl := Lib.rl_loadVar_cells (P := Tryd.prog) 67 i hi er_gS b 0 [.string x, .string y] (by rw [hs]; rfl) W (fun k v h => by
    rcases k with _ | _ | k
    · simp at h; subst h; simpa using hx
    · simp at h; subst h; simpa using hy
    · simp at h)
  have hst := Lib.rl_storeVar_cells (P := Tryd.prog) 67 i hi tb 0 [.string x, .string y] (by rw [hs]; rfl) (fun v h => by simp at h; rcases h with rfl | rfl <;> rfl) W (fun k hk => by
    rcases k with _ | _ | k
    · simpa using h0
    · simpa using h1
    · simp only [List.length_cons, List.length_nil] at hk; omega) (fun k hk => by
    rcases k with _ | _ | k
    · simpa using f0
    · simpa using f1
    · simp only [List.length_cons, List.length_nil] at hk; omega)
  refine er_two _ rfl (er_pSa _ W) (er_pS _ W) ?_
  simp [ReflectliteValue.flagAddr, Result.andThen, er_dS]
  rw [show (Value.agg [Value.string x, Value.string y].toArray) = .agg #[.string x, .string y] from rfl] at hl hst
  simp [hl, hst, World.setCells]
theorem er_mK (n : Nat) (h : Value) (w : World) : (Go.method (n + 1) 99 (.agg #[h]) "Kind").run Tryd.prog w = .ok (94, h) w := by kernel_rfl
theorem er_mE (n : Nat) (h : Value) (w : World) : (Go.method (n + 1) 99 (.agg #[h]) "Elem").run Tryd.prog w = .ok (105, .agg #[h]) w := by kernel_rfl
theorem er_mI (n : Nat) (h : Value) (w : World) : (Go.method (n + 1) 99 (.agg #[h]) "Implements").run Tryd.prog w = .ok (106, .agg #[h]) w := by kernel_rfl
theorem er_mA (n : Nat) (h : Value) (w : World) : (Go.method (n + 1) 99 (.agg #[h]) "AssignableTo").run Tryd.prog w = .ok (103, .agg #[h]) w := by kernel_rfl
theorem duo_cell {w : World} {B : Nat} {x y : Value} {T : TypeId} (h : w.heap[B]? = some (.cells #[x, y] T (0, 0))) :
    w.cell? ⟨B, 0, none⟩ = some x ∧ w.cell? ⟨B, 1, none⟩ = some y ∧ w.frozen? ⟨B, 0, none⟩ = false ∧ w.frozen? ⟨B, 1, none⟩ = false :=
  ⟨by simp [World.cell?, h], by simp [World.cell?, h], by simp [World.frozen?, h], by simp [World.frozen?, h]⟩
set_option maxHeartbeats 4000000 in
theorem er_as (w : World) (x y x0 y0 : ByteArray) (tb : Nat) (hg : w.cell? ⟨0, 0, none⟩ = some (.iface 99 (.agg #[.pointer (some ⟨gN, 47, none⟩)]))) (ht0 : w.heap[tb]? = some (.cells #[.string x0, .string y0] 67 (0, 0))) :
    Calls Tryd.prog 54 #[.iface 67 (.agg #[.string x, .string y]), .iface 69 (.pointer (some ⟨tb, 0, none⟩))] w fun e w' => e = .returned (.bool true) ∧ Below tb w w' := by
  have h6 := @run_callFunc_extern Tryd.prog 67 _ (fun args => ReflectliteValue.unpack (args.getD 0 (.tuple #[]))) Tryd.func67 (by kernel_rfl) (by kernel_rfl) (by kernel_rfl) (by kernel_rfl)
  have h7 := @run_callFunc_extern Tryd.prog 68 _ (ReflectliteValue.methodAny (ReflectliteValue.valueError "reflectlite.Value.Type" 0) (fun t _ _ _ => ReflectliteType.toType t)) Tryd.func68 (by kernel_rfl) (by kernel_rfl) (by kernel_rfl) (by kernel_rfl)
  have h8 := @run_callFunc_extern Tryd.prog 69 _ (ReflectliteValue.method (ReflectliteValue.valueError "reflectlite.Value.IsNil" 0) ReflectliteValue.isNil) Tryd.func69 (by kernel_rfl) (by kernel_rfl) (by kernel_rfl) (by kernel_rfl)
  have h27 := @run_callFunc_extern Tryd.prog 94 _ (ReflectliteType.abiMethod fun t => do pure (.int .u8 (← Rtype.kind t))) Tryd.func94 (by kernel_rfl) (by kernel_rfl) (by kernel_rfl) (by kernel_rfl)
  have h37 := @run_callFunc_extern Tryd.prog 105 _ (ReflectliteType.method ReflectliteType.elem) Tryd.func105 (by kernel_rfl) (by kernel_rfl) (by kernel_rfl) (by kernel_rfl)
  have h38 := @run_callFunc_extern Tryd.prog 106 _ (ReflectliteType.relation "Implements" ReflectliteType.implements_) Tryd.func106 (by kernel_rfl) (by kernel_rfl) (by kernel_rfl) (by kernel_rfl)
  have h10 := @run_callFunc_extern Tryd.prog 75 _ ReflectliteType.typeOf Tryd.func75 (by kernel_rfl) (by kernel_rfl) (by kernel_rfl) (by kernel_rfl)
  have h35 := @run_callFunc_extern Tryd.prog 103 _ (ReflectliteType.relation "AssignableTo" ReflectliteType.assignableTo) Tryd.func103 (by kernel_rfl) (by kernel_rfl) (by kernel_rfl) (by kernel_rfl)
  have h11 := @run_callFunc_extern Tryd.prog 76 _ (ReflectliteValue.method (ReflectliteValue.valueError "reflectlite.Value.Elem" 0) ReflectliteValue.elem) Tryd.func76 (by kernel_rfl) (by kernel_rfl) (by kernel_rfl) (by kernel_rfl)
  have h12 := @run_callFunc_extern Tryd.prog 77 _ ReflectliteValue.set Tryd.func77 (by kernel_rfl) (by kernel_rfl) (by kernel_rfl) (by kernel_rfl)
  have tO := er_tS
  have mA := er_mA
  have a25 := er_aS
  have v25 := er_vS
  have f6 := er_vP
  have f7 := er_tP
  have mK := er_mK
  have mE := er_mE
  have mI := er_mI
  have k27 := er_kP
  have k25 := er_kS
  have e27 := er_eP
  have i25 := er_iS
  have htl : tb < w.heap.size := by
    rcases Nat.lt_or_ge tb w.heap.size with h | h
    · exact h
    · simp [Array.getElem?_eq_none h] at ht0
  have hlt : 0 < w.heap.size := World.block_lt_of_cell? w _ hg
  have n8 := er_nP ⟨w.heap.size, 0, none⟩ ⟨tb, 0, none⟩ ((w.alloc (.cells #[.pointer (some ⟨tb, 0, none⟩)] 69)).alloc (.cells #[.pointer (some ⟨gN, 69, none⟩), .pointer (some ⟨w.heap.size, 0, none⟩), .int .u64 150] 87)) (by simp)
  have hg2 : ((w.alloc (.cells #[.pointer (some ⟨tb, 0, none⟩)] 69)).alloc (.cells #[.pointer (some ⟨gN, 69, none⟩), .pointer (some ⟨w.heap.size, 0, none⟩), .int .u64 150] 87)).cell? ⟨0, 0, none⟩ = some (.iface 99 (.agg #[.pointer (some ⟨gN, 47, none⟩)])) := by
    rw [World.cell?_alloc_lt _ _ ⟨0, 0, none⟩ (by simp), World.cell?_alloc_lt _ _ ⟨0, 0, none⟩ hlt]; exact hg
  have el := er_lP ⟨w.heap.size, 0, none⟩ ⟨tb, 0, none⟩ (((w.alloc (.cells #[.pointer (some ⟨tb, 0, none⟩)] 69)).alloc (.cells #[.pointer (some ⟨gN, 69, none⟩), .pointer (some ⟨w.heap.size, 0, none⟩), .int .u64 150] 87)).alloc (.cells #[.pointer (some ⟨gN, 69, none⟩), .pointer (some ⟨w.heap.size, 0, none⟩), .int .u64 150] 87)) (by rw [World.cell?_alloc_lt _ _ ⟨w.heap.size, 0, none⟩ (by simp; omega)]; simp)
  have hB4 : Below w.heap.size w ((((w.alloc (.cells #[.pointer (some ⟨tb, 0, none⟩)] 69)).alloc (.cells #[.pointer (some ⟨gN, 69, none⟩), .pointer (some ⟨w.heap.size, 0, none⟩), .int .u64 150] 87)).alloc (.cells #[.pointer (some ⟨gN, 69, none⟩), .pointer (some ⟨w.heap.size, 0, none⟩), .int .u64 150] 87)).alloc (.cells #[.string x, .string y] 67)) := Below.alloc (Below.alloc (Below.alloc (Joins.below_alloc1 w _) (by simp) _) (by simp; omega) _) (by simp; omega) _
  have R4 := keepH hB4 htl ht0
  have C4 : ((((w.alloc (.cells #[.pointer (some ⟨tb, 0, none⟩)] 69)).alloc (.cells #[.pointer (some ⟨gN, 69, none⟩), .pointer (some ⟨w.heap.size, 0, none⟩), .int .u64 150] 87)).alloc (.cells #[.pointer (some ⟨gN, 69, none⟩), .pointer (some ⟨w.heap.size, 0, none⟩), .int .u64 150] 87)).alloc (.cells #[.string x, .string y] 67)).heap[w.heap.size + 1 + 1 + 1]? = some (.cells #[.string x, .string y] 67 (0, 0)) := by simpa using heap_alloc_new (((w.alloc (.cells #[.pointer (some ⟨tb, 0, none⟩)] 69)).alloc (.cells #[.pointer (some ⟨gN, 69, none⟩), .pointer (some ⟨w.heap.size, 0, none⟩), .int .u64 150] 87)).alloc (.cells #[.pointer (some ⟨gN, 69, none⟩), .pointer (some ⟨w.heap.size, 0, none⟩), .int .u64 150] 87)) (.cells #[.string x, .string y] 67)
  have st := er_sS tb (w.heap.size + 1 + 1 + 1) x y ((((w.alloc (.cells #[.pointer (some ⟨tb, 0, none⟩)] 69)).alloc (.cells #[.pointer (some ⟨gN, 69, none⟩), .pointer (some ⟨w.heap.size, 0, none⟩), .int .u64 150] 87)).alloc (.cells #[.pointer (some ⟨gN, 69, none⟩), .pointer (some ⟨w.heap.size, 0, none⟩), .int .u64 150] 87)).alloc (.cells #[.string x, .string y] 67)) (duo_cell C4).1 (duo_cell C4).2.1 (by rw [(duo_cell R4).1]; rfl) (by rw [(duo_cell R4).2.1]; rfl) (duo_cell R4).2.2.1 (duo_cell R4).2.2.2
  have hB5 := Below.setCell (Below.setCell (hB4.mono (Nat.le_of_lt htl)) (p := ⟨tb, 0, none⟩) (Nat.le_refl _) (.string x)) (p := ⟨tb, 1, none⟩) (Nat.le_refl _) (.string y)
  clear hB4 R4 C4 ht0
  go_enter Tryd.func54, Tryd.ntmps54
  go_wp2
  refine wp_loop_rounds 1 ?_
  rw [rounds_succ]
  go_wp2
  go_ret
  exact ⟨rfl, hB5⟩
/-- No error is not refused. -/
theorem iRef_no (w : World) : Calls Tryd.prog 36 #[.nilIface] w fun e w' => e = .returned (.bool false) ∧ Below w.heap.size w w' := by
  go_enter Tryd.func36, Tryd.ntmps36
  go_wp2_with (go_at_call 54; refine (er_nil _ _).mono ?_; rintro e w1 ⟨rfl, rfl⟩)
  go_ret
  exact ⟨rfl, Joins.below_alloc1 w _⟩
/-- The program's own error is refused. -/
theorem iRef_yes (w : World) (x y : ByteArray) (B : Nat) (hB0 : B ≤ w.heap.size) (he : ErrB B w) : Calls Tryd.prog 36 #[.iface 67 (.agg #[.string x, .string y])] w fun e w' => e = .returned (.bool true) ∧ Below w.heap.size w w' := by
  have HC := Lib.hid (keepC (Joins.below_alloc1 w (.cells #[.string ByteArray.empty, .string ByteArray.empty] 67)) (Nat.lt_of_lt_of_le he.1 hB0) he.2)
  have HT := Lib.hid (heap_alloc_new w (.cells #[.string ByteArray.empty, .string ByteArray.empty] 67))
  have HB := Lib.hid (Joins.below_alloc1 w (.cells #[.string ByteArray.empty, .string ByteArray.empty] 67))
  clear he
  go_enter Tryd.func36, Tryd.ntmps36
  go_wp2_with (go_at_call 54; refine (er_as _ x y ByteArray.empty ByteArray.empty w.heap.size HC.out HT.out).mono ?_; rintro e w1 ⟨rfl, hb1⟩)
  go_ret
  exact ⟨rfl, HB.out.trans hb1⟩
end Go.Proofs.YtaacofbmbpkeoaaDoor
