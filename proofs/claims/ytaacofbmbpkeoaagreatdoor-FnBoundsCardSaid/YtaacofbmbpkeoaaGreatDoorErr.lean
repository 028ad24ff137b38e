/- The library's errors.As at the program's own error, a struct of two texts: no error, false; the error itself, true, and the caller's variable is set. The program's isRefused. -/
import Derived.Test.YtaacofbmbpkeoaaGreatDoorMGAH
import Derived.WalkKit
import Derived.LaidEql
import Derived.Stop.Asserts
import Derived.RowKitTokens
import Derived.Lib.ReflectliteSwap
namespace Go.Proofs.YtaacofbmbpkeoaaGreatDoor
open Go.RowKit Go.Extern.Stop Go.Stop Go.Extern
set_option maxRecDepth 1000000
/-- How many package-level variables the program has: a type's handle points behind them. -/
noncomputable def gN : Nat := Tryz.prog.globals.size
/-- The library's variable errorType holds its handle, below block B. -/
def ErrB (B : Nat) (w : World) : Prop := 0 < B ∧ w.cell? ⟨0, 0, none⟩ = some (.iface 119 (.agg #[.pointer (some ⟨gN, 52, none⟩)]))
theorem ErrB.on {B : Nat} {w w1 : World} (h : ErrB B w) (hb : Below B w w1) : ErrB B w1 := ⟨h.1, keepC hb h.1 h.2⟩
theorem er_nil (t : Value) (w : World) : Calls Tryz.prog 78 #[.nilIface, t] w fun e w' => e = .returned (.bool false) ∧ w = w' := by
  go_enter Tryz.func78, Tryz.ntmps78
  go_wp2
  go_ret
  exact ⟨rfl, rfl⟩
theorem er_vP (t : Addr) (w : World) : (ReflectliteValue.unpack (.iface 79 (.pointer (some t)))).run Tryz.prog w
    = .ok (.agg #[.pointer (some ⟨gN, 79, none⟩), .pointer (some ⟨w.heap.size, 0, none⟩), .int .u64 150]) (w.alloc (.cells #[.pointer (some t)] 79)) := by kernel_rfl
theorem er_tP (a : Addr) (w : World) : (ReflectliteValue.methodAny (ReflectliteValue.valueError "reflectlite.Value.Type" 0) (fun t _ _ _ => ReflectliteType.toType t) #[.agg #[.pointer (some ⟨gN, 79, none⟩), .pointer (some a), .int .u64 150]]).run Tryz.prog w
    = .ok (.iface 119 (.agg #[.pointer (some ⟨gN, 79, none⟩)])) w := by kernel_rfl
theorem er_kP (w : World) : ((ReflectliteType.abiMethod fun t => (fun a : Nat => Value.int IntKind.u8 (a : Int)) <$> Rtype.kind t) #[.pointer (some ⟨gN, 79, none⟩)]).run Tryz.prog w = .ok (.int .u8 22) w := by kernel_rfl
theorem er_kS (w : World) : ((ReflectliteType.abiMethod fun t => (fun a : Nat => Value.int IntKind.u8 (a : Int)) <$> Rtype.kind t) #[.pointer (some ⟨gN, 77, none⟩)]).run Tryz.prog w = .ok (.int .u8 25) w := by kernel_rfl
/-- An entry that first asks for the parts of a Value. -/
theorem er_one {S : Sem Value} {v : Value} {T : TypeId} {a : Addr} {fl : Nat} {W : World} {R : Result Value} (g : Option (TypeId × Addr × Nat) → Sem Value) (h : S = ReflectliteValue.parts v >>= g)
    (hp : (ReflectliteValue.parts v).run Tryz.prog W = .ok (some (T, a, fl)) W) (hr : (g (some (T, a, fl))).run Tryz.prog W = R) : S.run Tryz.prog W = R := by
  rw [h]
  simp only [Sem.run_bind, hp, Result.andThen]
  exact hr
/-- An entry that first asks for the parts of two Values. -/
theorem er_two {S : Sem Value} {v x : Value} {T U : TypeId} {a b : Addr} {fl fk : Nat} {W : World} {R : Result Value} (g : Option (TypeId × Addr × Nat) → Option (TypeId × Addr × Nat) → Sem Value)
    (h : S = ReflectliteValue.parts v >>= fun y => ReflectliteValue.parts x >>= fun z => g y z)
    (hp : (ReflectliteValue.parts v).run Tryz.prog W = .ok (some (T, a, fl)) W) (hq : (ReflectliteValue.parts x).run Tryz.prog W = .ok (some (U, b, fk)) W)
    (hr : (g (some (T, a, fl)) (some (U, b, fk))).run Tryz.prog W = R) : S.run Tryz.prog W = R := by
  rw [h]
  simp only [Sem.run_bind, hp, hq, Result.andThen]
  exact hr
theorem er_pP (a : Addr) (w : World) : (ReflectliteValue.parts (.agg #[.pointer (some ⟨gN, 79, none⟩), .pointer (some a), .int .u64 150])).run Tryz.prog w = .ok (some (79, a, 150)) w := by kernel_rfl
theorem er_nP (a p : Addr) (W : World) (ha : W.cell? a = some (.pointer (some p))) :
    (ReflectliteValue.method (ReflectliteValue.valueError "reflectlite.Value.IsNil" 0) ReflectliteValue.isNil #[.agg #[.pointer (some ⟨gN, 79, none⟩), .pointer (some a), .int .u64 150]]).run Tryz.prog W = .ok (.bool false) W := by
  refine er_one _ rfl (er_pP a W) ?_
  simp [ReflectliteValue.isNil, loadVar, isAgg, underlying, Tryz.underlying79, ha, Result.andThen]
theorem er_eP (w : World) : (ReflectliteType.method ReflectliteType.elem #[.agg #[.pointer (some ⟨gN, 79, none⟩)]]).run Tryz.prog w = .ok (.iface 119 (.agg #[.pointer (some ⟨gN, 77, none⟩)])) w := by kernel_rfl
theorem er_iS (w : World) : (ReflectliteType.relation "Implements" ReflectliteType.implements_ #[.agg #[.pointer (some ⟨gN, 77, none⟩)], .iface 119 (.agg #[.pointer (some ⟨gN, 52, none⟩)])]).run Tryz.prog w = .ok (.bool true) w := by kernel_rfl
theorem er_tS (v : Value) (w : World) : (ReflectliteType.typeOf #[.iface 77 v]).run Tryz.prog w = .ok (.iface 119 (.agg #[.pointer (some ⟨gN, 77, none⟩)])) w := by kernel_rfl
theorem er_aS (w : World) : (ReflectliteType.relation "AssignableTo" ReflectliteType.assignableTo #[.agg #[.pointer (some ⟨gN, 77, none⟩)], .iface 119 (.agg #[.pointer (some ⟨gN, 77, none⟩)])]).run Tryz.prog w = .ok (.bool true) w := by kernel_rfl
theorem er_vS (x y : Value) (w : World) : (ReflectliteValue.unpack (.iface 77 (.agg #[x, y]))).run Tryz.prog w
    = .ok (.agg #[.pointer (some ⟨gN, 77, none⟩), .pointer (some ⟨w.heap.size, 0, none⟩), .int .u64 153]) (w.alloc (.cells #[x, y] 77)) := by kernel_rfl
theorem er_oP (w : World) : (Rtype.elem? 79).run Tryz.prog w = .ok (some 77) w := by kernel_rfl
theorem er_mS (p : Addr) (w : World) : (ReflectliteValue.mk 77 p ReflectliteValue.flagAddr).run Tryz.prog w = .ok (.agg #[.pointer (some ⟨gN, 77, none⟩), .pointer (some p), .int .u64 409]) w := by kernel_rfl
theorem er_lP (a p : Addr) (W : World) (ha : W.cell? a = some (.pointer (some p))) :
    (ReflectliteValue.method (ReflectliteValue.valueError "reflectlite.Value.Elem" 0) ReflectliteValue.elem #[.agg #[.pointer (some ⟨gN, 79, none⟩), .pointer (some a), .int .u64 150]]).run Tryz.prog W
      = .ok (.agg #[.pointer (some ⟨gN, 77, none⟩), .pointer (some p), .int .u64 409]) W := by
  refine er_one _ rfl (er_pP a W) ?_
  simp [ReflectliteValue.elem, loadVar, isAgg, underlying, Tryz.underlying79, ha, Result.andThen, er_oP, er_mS]
theorem er_pSa (a : Addr) (w : World) : (ReflectliteValue.parts (.agg #[.pointer (some ⟨gN, 77, none⟩), .pointer (some a), .int .u64 409])).run Tryz.prog w = .ok (some (77, a, 409)) w := by kernel_rfl
theorem er_pS (a : Addr) (w : World) : (ReflectliteValue.parts (.agg #[.pointer (some ⟨gN, 77, none⟩), .pointer (some a), .int .u64 153])).run Tryz.prog w = .ok (some (77, a, 153)) w := by kernel_rfl
theorem er_dS (w : World) : (Rtype.directlyAssignable 77 77).run Tryz.prog w = .ok true w := by kernel_rfl
theorem er_gS (w : World) : (isAgg 77).run Tryz.prog w = .ok true w := by kernel_rfl
theorem er_zS (w : World) : (sizeOf 77).run Tryz.prog w = .ok 2 w := by kernel_rfl
theorem er_info : ∃ i, Tryz.prog.info? 77 = some i ∧ i.size = 2 := by
  have h : (Tryz.prog.info? 77).isSome = true := by kernel_rfl
  obtain ⟨i, hi⟩ := Option.isSome_iff_exists.1 h
  have h2 : (Tryz.prog.info? 77).map (·.size) = some 2 := by kernel_rfl
  rw [hi] at h2
  exact ⟨i, hi, by simpa using h2⟩
/-- The target's two cells get those of the error. -/
theorem er_sS (tb b : Nat) (x y : ByteArray) (W : World) (hx : W.cell? ⟨b, 0, none⟩ = some (.string x)) (hy : W.cell? ⟨b, 1, none⟩ = some (.string y))
    (h0 : (W.cell? ⟨tb, 0, none⟩).isSome = true) (h1 : (W.cell? ⟨tb, 1, none⟩).isSome = true) (f0 : W.frozen? ⟨tb, 0, none⟩ = false) (f1 : W.frozen? ⟨tb, 1, none⟩ = false) :
    (ReflectliteValue.set #[.agg #[.pointer (some ⟨gN, 77, none⟩), .pointer (some ⟨tb, 0, none⟩), .int .u64 409], .agg #[.pointer (some ⟨gN, 77, none⟩), .pointer (some ⟨b, 0, none⟩), .int .u64 153]]).run Tryz.prog W
      = .ok (.tuple #[]) ((W.setCell ⟨tb, 0, none⟩ (.string x)).setCell ⟨tb, 1, none⟩ (.string y)) := by
  obtain ⟨i, hi, hs⟩ := er_info
  have hl := Lib.rl_loadVar_cells (P := Tryz.prog) 77 i hi er_gS b 0 [.string x, .string y] (by rw [hs]; rfl) W (fun k v h => by
    rcases k with _ | _ | k
    · simp at h; subst h; simpa using hx
    · simp at h; subst h; simpa using hy
    · simp at h)
  have hst := Lib.rl_storeVar_cells (P := Tryz.prog) 77 i hi tb 0 [.string x, .string y] (by rw [hs]; rfl) (fun v h => by simp at h; rcases h with rfl | rfl <;> rfl) W (fun k hk => by
    rcases k with _ | _ | k
    · simpa using h0
    · simpa using h1
    · simp only [List.length_cons, List.length_nil] at hk; omega) (fun k hk => by
    rcases k with _ | _ | k
    · simpa using f0
    · simpa using f1
    · simp only [List.length_cons, List.length_nil] at hk; omega)
  refine er_two _ rfl (er_pSa _ W) (er_pS _ W) ?_
  simp [ReflectliteValue.flagAddr, Result.andThen, er_dS]
  rw [show (Value.agg [Value.string x, Value.string y].toArray) = .agg #[.string x, .string y] from rfl] at hl hst
  simp [hl, hst, World.setCells]
theorem er_mK (n : Nat) (h : Value) (w : World) : (Go.method (n + 1) 119 (.agg #[h]) "Kind").run Tryz.prog w = .ok (130, h) w := by kernel_rfl
theorem er_mE (n : Nat) (h : Value) (w : World) : (Go.method (n + 1) 119 (.agg #[h]) "Elem").run Tryz.prog w = .ok (141, .agg #[h]) w := by kernel_rfl
theorem er_mI (n : Nat) (h : Value) (w : World) : (Go.method (n + 1) 119 (.agg #[h]) "Implements").run Tryz.prog w = .ok (142, .agg #[h]) w := by kernel_rfl
theorem er_mA (n : Nat) (h : Value) (w : World) : (Go.method (n + 1) 119 (.agg #[h]) "AssignableTo").run Tryz.prog w = .ok (139, .agg #[h]) w := by kernel_rfl
theorem duo_cell {w : World} {B : Nat} {x y : Value} {T : TypeId} (h : w.heap[B]? = some (.cells #[x, y] T (0, 0))) :
    w.cell? ⟨B, 0, none⟩ = some x ∧ w.cell? ⟨B, 1, none⟩ = some y ∧ w.frozen? ⟨B, 0, none⟩ = false ∧ w.frozen? ⟨B, 1, none⟩ = false :=
  ⟨by simp [World.cell?, h], by simp [World.cell?, h], by simp [World.frozen?, h], by simp [World.frozen?, h]⟩
set_option maxHeartbeats 4000000 in
theorem er_as (w : World) (x y x0 y0 : ByteArray) (tb : Nat) (hg : w.cell? ⟨0, 0, none⟩ = some (.iface 119 (.agg #[.pointer (some ⟨gN, 52, none⟩)]))) (ht0 : w.heap[tb]? = some (.cells #[.string x0, .string y0] 77 (0, 0))) :
    Calls Tryz.prog 78 #[.iface 77 (.agg #[.string x, .string y]), .iface 79 (.pointer (some ⟨tb, 0, none⟩))] w fun e w' => e = .returned (.bool true) ∧ Below tb w w' := by
  have h6 := @run_callFunc_extern Tryz.prog 100 _ (fun args => ReflectliteValue.unpack (args.getD 0 (.tuple #[]))) Tryz.func100 (by kernel_rfl) (by kernel_rfl) (by kernel_rfl) (by kernel_rfl)
  have h7 := @run_callFunc_extern Tryz.prog 101 _ (ReflectliteValue.methodAny (ReflectliteValue.valueError "reflectlite.Value.Type" 0) (fun t _ _ _ => ReflectliteType.toType t)) Tryz.func101 (by kernel_rfl) (by kernel_rfl) (by kernel_rfl) (by kernel_rfl)
  have h8 := @run_callFunc_extern Tryz.prog 102 _ (ReflectliteValue.method (ReflectliteValue.valueError "reflectlite.Value.IsNil" 0) ReflectliteValue.isNil) Tryz.func102 (by kernel_rfl) (by kernel_rfl) (by kernel_rfl) (by kernel_rfl)
  have h27 := @run_callFunc_extern Tryz.prog 130 _ (ReflectliteType.abiMethod fun t => do pure (.int .u8 (← Rtype.kind t))) Tryz.func130 (by kernel_rfl) (by kernel_rfl) (by kernel_rfl) (by kernel_rfl)
  have h37 := @run_callFunc_extern Tryz.prog 141 _ (ReflectliteType.method ReflectliteType.elem) Tryz.func141 (by kernel_rfl) (by kernel_rfl) (by kernel_rfl) (by kernel_rfl)
  have h38 := @run_callFunc_extern Tryz.prog 142 _ (ReflectliteType.relation "Implements" ReflectliteType.implements_) Tryz.func142 (by kernel_rfl) (by kernel_rfl) (by kernel_rfl) (by kernel_rfl)
  have h10 := @run_callFunc_extern Tryz.prog 110 _ ReflectliteType.typeOf Tryz.func110 (by kernel_rfl) (by kernel_rfl) (by kernel_rfl) (by kernel_rfl)
  have h35 := @run_callFunc_extern Tryz.prog 139 _ (ReflectliteType.relation "AssignableTo" ReflectliteType.assignableTo) Tryz.func139 (by kernel_rfl) (by kernel_rfl) (by kernel_rfl) (by kernel_rfl)
  have h11 := @run_callFunc_extern Tryz.prog 111 _ (ReflectliteValue.method (ReflectliteValue.valueError "reflectlite.Value.Elem" 0) ReflectliteValue.elem) Tryz.func111 (by kernel_rfl) (by kernel_rfl) (by kernel_rfl) (by kernel_rfl)
  have h12 := @run_callFunc_extern Tryz.prog 112 _ ReflectliteValue.set Tryz.func112 (by kernel_rfl) (by kernel_rfl) (by kernel_rfl) (by kernel_rfl)
  have tO := er_tS
  have mA := er_mA
  have a25 := er_aS
  have v25 := er_vS
  have f6 := er_vP
  have f7 := er_tP
  have mK := er_mK
  have mE := er_mE
  have mI := er_mI
  have k27 := er_kP
  have k25 := er_kS
  have e27 := er_eP
  have i25 := er_iS
  have htl : tb < w.heap.size := by
    rcases Nat.lt_or_ge tb w.heap.size with h | h
    · exact h
    · simp [Array.getElem?_eq_none h] at ht0
  have hlt : 0 < w.heap.size := World.block_lt_of_cell? w _ hg
  have n8 := er_nP ⟨w.heap.size, 0, none⟩ ⟨tb, 0, none⟩ ((w.alloc (.cells #[.pointer (some ⟨tb, 0, none⟩)] 79)).alloc (.cells #[.pointer (some ⟨gN, 79, none⟩), .pointer (some ⟨w.heap.size, 0, none⟩), .int .u64 150] 104)) (by simp)
  have hg2 : ((w.alloc (.cells #[.pointer (some ⟨tb, 0, none⟩)] 79)).alloc (.cells #[.pointer (some ⟨gN, 79, none⟩), .pointer (some ⟨w.heap.size, 0, none⟩), .int .u64 150] 104)).cell? ⟨0, 0, none⟩ = some (.iface 119 (.agg #[.pointer (some ⟨gN, 52, none⟩)])) := by
    rw [World.cell?_alloc_lt _ _ ⟨0, 0, none⟩ (by simp), World.cell?_alloc_lt _ _ ⟨0, 0, none⟩ hlt]; exact hg
  have el := er_lP ⟨w.heap.size, 0, none⟩ ⟨tb, 0, none⟩ (((w.alloc (.cells #[.pointer (some ⟨tb, 0, none⟩)] 79)).alloc (.cells #[.pointer (some ⟨gN, 79, none⟩), .pointer (some ⟨w.heap.size, 0, none⟩), .int .u64 150] 104)).alloc (.cells #[.pointer (some ⟨gN, 79, none⟩), .pointer (some ⟨w.heap.size, 0, none⟩), .int .u64 150] 104)) (by rw [World.cell?_alloc_lt _ _ ⟨w.heap.size, 0, none⟩ (by simp; omega)]; simp)
  have hB4 : Below w.heap.size w ((((w.alloc (.cells #[.pointer (some ⟨tb, 0, none⟩)] 79)).alloc (.cells #[.pointer (some ⟨gN, 79, none⟩), .pointer (some ⟨w.heap.size, 0, none⟩), .int .u64 150] 104)).alloc (.cells #[.pointer (some ⟨gN, 79, none⟩), .pointer (some ⟨w.heap.size, 0, none⟩), .int .u64 150] 104)).alloc (.cells #[.string x, .string y] 77)) := Below.alloc (Below.alloc (Below.alloc (Joins.below_alloc1 w _) (by simp) _) (by simp; omega) _) (by simp; omega) _
  have R4 := keepH hB4 htl ht0
  have C4 : ((((w.alloc (.cells #[.pointer (some ⟨tb, 0, none⟩)] 79)).alloc (.cells #[.pointer (some ⟨gN, 79, none⟩), .pointer (some ⟨w.heap.size, 0, none⟩), .int .u64 150] 104)).alloc (.cells #[.pointer (some ⟨gN, 79, none⟩), .pointer (some ⟨w.heap.size, 0, none⟩), .int .u64 150] 104)).alloc (.cells #[.string x, .string y] 77)).heap[w.heap.size + 1 + 1 + 1]? = some (.cells #[.string x, .string y] 77 (0, 0)) := by simpa using heap_alloc_new (((w.alloc (.cells #[.pointer (some ⟨tb, 0, none⟩)] 79)).alloc (.cells #[.pointer (some ⟨gN, 79, none⟩), .pointer (some ⟨w.heap.size, 0, none⟩), .int .u64 150] 104)).alloc (.cells #[.pointer (some ⟨gN, 79, none⟩), .pointer (some ⟨w.heap.size, 0, none⟩), .int .u64 150] 104)) (.cells #[.string x, .string y] 77)
  have st := er_sS tb (w.heap.size + 1 + 1 + 1) x y ((((w.alloc (.cells #[.pointer (some ⟨tb, 0, none⟩)] 79)).alloc (.cells #[.pointer (some ⟨gN, 79, none⟩), .pointer (some ⟨w.heap.size, 0, none⟩), .int .u64 150] 104)).alloc (.cells #[.pointer (some ⟨gN, 79, none⟩), .pointer (some ⟨w.heap.size, 0, none⟩), .int .u64 150] 104)).alloc (.cells #[.string x, .string y] 77)) (duo_cell C4).1 (duo_cell C4).2.1 (by rw [(duo_cell R4).1]; rfl) (by rw [(duo_cell R4).2.1]; rfl) (duo_cell R4).2.2.1 (duo_cell R4).2.2.2
  have hB5 := Below.setCell (Below.setCell (hB4.mono (Nat.le_of_lt htl)) (p := ⟨tb, 0, none⟩) (Nat.le_refl _) (.string x)) (p := ⟨tb, 1, none⟩) (Nat.le_refl _) (.string y)
  clear hB4 R4 C4 ht0
  go_enter Tryz.func78, Tryz.ntmps78
  go_wp2
  refine wp_loop_rounds 1 ?_
  rw [rounds_succ]
  go_wp2
  go_ret
  exact ⟨rfl, hB5⟩
/-- No error is not refused. -/
theorem iRef_no (w : World) : Calls Tryz.prog 51 #[.nilIface] w fun e w' => e = .returned (.bool false) ∧ Below w.heap.size w w' := by
  go_enter Tryz.func51, Tryz.ntmps51
  go_wp2_with (go_at_call 78; refine (er_nil _ _).mono ?_; rintro e w1 ⟨rfl, rfl⟩)
  go_ret
  exact ⟨rfl, Joins.below_alloc1 w _⟩
/-- The program's own error is refused. -/
theorem iRef_yes (w : World) (x y : ByteArray) (B : Nat) (hB0 : B ≤ w.heap.size) (he : ErrB B w) : Calls Tryz.prog 51 #[.iface 77 (.agg #[.string x, .string y])] w fun e w' => e = .returned (.bool true) ∧ Below w.heap.size w w' := by
  have HC := Lib.hid (keepC (Joins.below_alloc1 w (.cells #[.string ByteArray.empty, .string ByteArray.empty] 77)) (Nat.lt_of_lt_of_le he.1 hB0) he.2)
  have HT := Lib.hid (heap_alloc_new w (.cells #[.string ByteArray.empty, .string ByteArray.empty] 77))
  have HB := Lib.hid (Joins.below_alloc1 w (.cells #[.string ByteArray.empty, .string ByteArray.empty] 77))
  clear he
  go_enter Tryz.func51, Tryz.ntmps51
  go_wp2_with (go_at_call 78; refine (er_as _ x y ByteArray.empty ByteArray.empty w.heap.size HC.out HT.out).mono ?_; rintro e w1 ⟨rfl, hb1⟩)
  go_ret
  exact ⟨rfl, HB.out.trans hb1⟩
end Go.Proofs.YtaacofbmbpkeoaaGreatDoor
