/- errors.As at the program's own error (a struct of one number), by its contract; checkSystem and isNone. -/
import Derived.Test.YtonecelkkeakiaaGreatDoorS1
import Derived.LaidEql
import Derived.Stop.Asserts
import Derived.RowKitTokens
namespace Go.Proofs.YtonecelkkeakiaaGreatDoor
open Go.RowKit Go.Extern.Stop Go.Stop Go.Extern
/-- the library's variable that holds the type 'error' -/
def LaidE (w : World) : Prop := w.cell? ⟨2, 0, none⟩ = some (.iface 279 (.agg #[.pointer (some ⟨9, 53, none⟩)]))
theorem LaidE.lt {w : World} (h : LaidE w) : 2 < w.heap.size := World.block_lt_of_cell? _ _ h
theorem LaidE.keep {w w' : World} (h : LaidE w) (k : Below w.heap.size w w') : LaidE w' := (k.cell h.lt).trans h
theorem as_nil (t : Value) (w : World) : Calls Tryz.prog 217 #[.nilIface, t] w fun e w' => e = .returned (.bool false) ∧ w' = w := by
  go_enter Tryz.func217, Tryz.ntmps217
  go_wp2
  go_ret
  exact ⟨rfl, rfl⟩
theorem as_valueOfP (t : Addr) (w : World) : (ReflectliteValue.unpack (.iface 193 (.pointer (some t)))).run Tryz.prog w
    = .ok (.agg #[.pointer (some ⟨9, 193, none⟩), .pointer (some ⟨w.heap.size, 0, none⟩), .int .u64 150]) (w.alloc (.cells #[.pointer (some t)] 193)) := by kernel_rfl
theorem as_typeP (a : Addr) (w : World) : (ReflectliteValue.methodAny (ReflectliteValue.valueError "reflectlite.Value.Type" 0) (fun t _ _ _ => ReflectliteType.toType t) #[.agg #[.pointer (some ⟨9, 193, none⟩), .pointer (some a), .int .u64 150]]).run Tryz.prog w
    = .ok (.iface 279 (.agg #[.pointer (some ⟨9, 193, none⟩)])) w := by kernel_rfl
theorem as_methodKind (h : Value) (w : World) : (Go.method 472 279 (.agg #[h]) "Kind").run Tryz.prog w = .ok (380, h) w := by kernel_rfl
theorem as_kindP (w : World) : ((ReflectliteType.abiMethod fun t => (fun a : Nat => Value.int IntKind.u8 (a : Int)) <$> Rtype.kind t) #[.pointer (some ⟨9, 193, none⟩)]).run Tryz.prog w = .ok (.int .u8 22) w := by kernel_rfl
theorem as_kindS (w : World) : ((ReflectliteType.abiMethod fun t => (fun a : Nat => Value.int IntKind.u8 (a : Int)) <$> Rtype.kind t) #[.pointer (some ⟨9, 191, none⟩)]).run Tryz.prog w = .ok (.int .u8 25) w := by kernel_rfl
theorem rlm (z : Sem Value) (f : TypeId → Addr → Nat → Nat → Sem Value) (v : Value) :
    ReflectliteValue.method z f #[v] = (do match ← ReflectliteValue.parts v with | none => z | some (t, a, fl) => f t a fl (fl % 32)) := rfl
theorem as_partsP (a : Addr) (w : World) : (ReflectliteValue.parts (.agg #[.pointer (some ⟨9, 193, none⟩), .pointer (some a), .int .u64 150])).run Tryz.prog w = .ok (some (193, a, 150)) w := by kernel_rfl
theorem as_isNilP (a p : Addr) (W : World) (ha : W.cell? a = some (.pointer (some p))) :
    (ReflectliteValue.method (ReflectliteValue.valueError "reflectlite.Value.IsNil" 0) ReflectliteValue.isNil #[.agg #[.pointer (some ⟨9, 193, none⟩), .pointer (some a), .int .u64 150]]).run Tryz.prog W = .ok (.bool false) W := by
  rw [rlm]
  simp only [Sem.run_bind, as_partsP, Result.andThen]
  simp [ReflectliteValue.isNil, loadVar, isAgg, underlying, Tryz.underlying193, ha, Result.andThen]
theorem as_methodElem (h : Value) (w : World) : (Go.method 472 279 (.agg #[h]) "Elem").run Tryz.prog w = .ok (391, .agg #[h]) w := by kernel_rfl
theorem as_methodImplements (h : Value) (w : World) : (Go.method 472 279 (.agg #[h]) "Implements").run Tryz.prog w = .ok (392, .agg #[h]) w := by kernel_rfl
theorem as_methodAssignableTo (h : Value) (w : World) : (Go.method 472 279 (.agg #[h]) "AssignableTo").run Tryz.prog w = .ok (389, .agg #[h]) w := by kernel_rfl
theorem as_elemP (w : World) : (ReflectliteType.method ReflectliteType.elem #[.agg #[.pointer (some ⟨9, 193, none⟩)]]).run Tryz.prog w = .ok (.iface 279 (.agg #[.pointer (some ⟨9, 191, none⟩)])) w := by kernel_rfl
theorem as_implementsS (w : World) : (ReflectliteType.relation "Implements" ReflectliteType.implements_ #[.agg #[.pointer (some ⟨9, 191, none⟩)], .iface 279 (.agg #[.pointer (some ⟨9, 53, none⟩)])]).run Tryz.prog w = .ok (.bool true) w := by kernel_rfl
theorem as_typeOfS (v : Value) (w : World) : (ReflectliteType.typeOf #[.iface 191 v]).run Tryz.prog w = .ok (.iface 279 (.agg #[.pointer (some ⟨9, 191, none⟩)])) w := by kernel_rfl
theorem as_assignableS (w : World) : (ReflectliteType.relation "AssignableTo" ReflectliteType.assignableTo #[.agg #[.pointer (some ⟨9, 191, none⟩)], .iface 279 (.agg #[.pointer (some ⟨9, 191, none⟩)])]).run Tryz.prog w = .ok (.bool true) w := by kernel_rfl
theorem as_valueOfS (c : Int) (w : World) : (ReflectliteValue.unpack (.iface 191 (.agg #[.int .i64 c]))).run Tryz.prog w
    = .ok (.agg #[.pointer (some ⟨9, 191, none⟩), .pointer (some ⟨w.heap.size, 0, none⟩), .int .u64 153]) (w.alloc (.cells #[.int .i64 c] 191)) := by kernel_rfl
theorem as_elemOfP (w : World) : (Rtype.elem? 193).run Tryz.prog w = .ok (some 191) w := by kernel_rfl
theorem as_mkS (p : Addr) (w : World) : (ReflectliteValue.mk 191 p ReflectliteValue.flagAddr).run Tryz.prog w = .ok (.agg #[.pointer (some ⟨9, 191, none⟩), .pointer (some p), .int .u64 409]) w := by kernel_rfl
theorem as_elemV (a p : Addr) (W : World) (ha : W.cell? a = some (.pointer (some p))) :
    (ReflectliteValue.method (ReflectliteValue.valueError "reflectlite.Value.Elem" 0) ReflectliteValue.elem #[.agg #[.pointer (some ⟨9, 193, none⟩), .pointer (some a), .int .u64 150]]).run Tryz.prog W
      = .ok (.agg #[.pointer (some ⟨9, 191, none⟩), .pointer (some p), .int .u64 409]) W := by
  rw [rlm]
  simp only [Sem.run_bind, as_partsP, Result.andThen]
  simp [ReflectliteValue.elem, loadVar, isAgg, underlying, Tryz.underlying193, ha, Result.andThen, as_elemOfP, as_mkS]
theorem rls (v x : Value) : ReflectliteValue.set #[v, x] = (do
    let (some (dst, a, fl), some (src, b, _)) := (← ReflectliteValue.parts v, ← ReflectliteValue.parts x)
      | unsupported (.noEntry "extern/(internal/reflectlite.Value).Set.zeroValue")
    if fl / ReflectliteValue.flagAddr % 2 == 0 then unsupported (.noEntry "extern/(internal/reflectlite.Value).Set.unaddressable")
    let val ← loadVar src b
    if ← Rtype.directlyAssignable dst src then storeVar dst a val
    else if ← Rtype.implements dst src then
      if (← Rtype.kind src) == 20 then
        match val with
        | .nilIface => unsupported (.noEntry "extern/reflectlite: a nil value of one interface type handed on as a value of another")
        | _ => storeVar dst a val
      else storeVar dst a (.iface src val)
    else panicString ("reflectlite.Set: value of type " ++ (← Rtype.spelt src) ++ " is not assignable to type " ++ (← Rtype.spelt dst))
    pure (.tuple #[])) := rfl
theorem as_partsSa (a : Addr) (w : World) : (ReflectliteValue.parts (.agg #[.pointer (some ⟨9, 191, none⟩), .pointer (some a), .int .u64 409])).run Tryz.prog w = .ok (some (191, a, 409)) w := by kernel_rfl
theorem as_partsS (a : Addr) (w : World) : (ReflectliteValue.parts (.agg #[.pointer (some ⟨9, 191, none⟩), .pointer (some a), .int .u64 153])).run Tryz.prog w = .ok (some (191, a, 153)) w := by kernel_rfl
theorem as_directS (w : World) : (Rtype.directlyAssignable 191 191).run Tryz.prog w = .ok true w := by kernel_rfl
theorem as_sizeS (w : World) : (sizeOf 191).run Tryz.prog w = .ok 1 w := by kernel_rfl
theorem as_isAggS (w : World) : (isAgg 191).run Tryz.prog w = .ok true w := by kernel_rfl
theorem as_loadS (b : Addr) (c : Int) (W : World) (hb : W.cell? b = some (.int .i64 c)) : (loadVar 191 b).run Tryz.prog W = .ok (.agg #[.int .i64 c]) W := by
  unfold loadVar
  simp only [Sem.run_bind, as_isAggS, Result.andThen]
  simp [loadCells, loadCellsFrom, Addr.add, hb, Result.andThen]
theorem as_storeS (a : Addr) (c : Int) (old : Value) (W : World) (ht : W.cell? a = some old) (hf : W.frozen? a = false) : (storeVar 191 a (.agg #[.int .i64 c])).run Tryz.prog W = .ok () (W.setCell a (.int .i64 c)) := by
  unfold storeVar
  simp [Value.cells, storeCells, Addr.add, Result.andThen]
  rw [run_store Tryz.prog W a _ _ (by rfl)]
  simp [ht, hf]
theorem as_setS (ta b : Addr) (c : Int) (old : Value) (W : World) (hb : W.cell? b = some (.int .i64 c)) (ht : W.cell? ta = some old) (hf : W.frozen? ta = false) :
    (ReflectliteValue.set #[.agg #[.pointer (some ⟨9, 191, none⟩), .pointer (some ta), .int .u64 409], .agg #[.pointer (some ⟨9, 191, none⟩), .pointer (some b), .int .u64 153]]).run Tryz.prog W
      = .ok (.tuple #[]) (W.setCell ta (.int .i64 c)) := by
  rw [rls]
  simp only [Sem.run_bind, as_partsSa, as_partsS, Result.andThen]
  simp [ReflectliteValue.flagAddr, as_loadS _ _ _ hb, Result.andThen, as_directS, as_storeS _ _ _ _ ht hf]
end Go.Proofs.YtonecelkkeakiaaGreatDoor
