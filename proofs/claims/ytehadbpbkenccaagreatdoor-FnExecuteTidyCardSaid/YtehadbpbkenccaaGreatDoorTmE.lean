/- The library's errors.As where the target is the program's own error: nil is none; its own error is found. -/
import Derived.Test.YtehadbpbkenccaaGreatDoorMA
import Derived.LaidEql
import Derived.Stop.Asserts
import Derived.RowKitTokens
namespace Go.Proofs.YtehadbpbkenccaaGreatDoor
open Go.RowKit Go.Extern.Stop Go.Stop Go.Extern

/-- The handle of a type; the library's variable holds that of 'error'. -/
abbrev hdl (t : Nat) : Value := .pointer (some ⟨9, t, none⟩)
abbrev hdlI (t : Nat) : Value := .iface 156 (.agg #[hdl t])
def Hand (w : World) : Prop := 0 < w.heap.size ∧ w.cell? ⟨0, 0, none⟩ = some (hdlI 53)
theorem Hand.below {w w' : World} {B : Nat} (h : Hand w) (hb : Below B w w') (hB : 0 < B) : Hand w' :=
  ⟨Nat.lt_of_lt_of_le h.1 hb.size, (hb.cell (p := ⟨0, 0, none⟩) (by simp; omega)).trans h.2⟩
theorem Hand.on {w w' : World} (h : Hand w) (hb : Below w.heap.size w w') : Hand w' := h.below hb h.1
theorem Hand.alloc {w : World} (h : Hand w) (o : Obj) : Hand (w.alloc o) := h.on ((Below.refl _ _).alloc (Nat.le_refl _) _)

/-- A Value of the library's: type, place, flags. -/
abbrev rv (t : Nat) (a : Addr) (f : Int) : Value := .agg #[hdl t, .pointer (some a), .int .u64 f]
theorem e_valP (t : Addr) (w : World) : (ReflectliteValue.unpack (.iface 67 (.pointer (some t)))).run Tryz.prog w = .ok (rv 67 ⟨w.heap.size, 0, none⟩ 150) (w.alloc (.cells #[.pointer (some t)] 67)) := by kernel_rfl
theorem e_valT (n : Int) (w : World) : (ReflectliteValue.unpack (.iface 65 (.agg #[.int .i64 n]))).run Tryz.prog w = .ok (rv 65 ⟨w.heap.size, 0, none⟩ 153) (w.alloc (.cells #[.int .i64 n] 65)) := by kernel_rfl
theorem e_typP (a : Addr) (w : World) : (ReflectliteValue.methodAny (ReflectliteValue.valueError "reflectlite.Value.Type" 0) (fun t _ _ _ => ReflectliteType.toType t) #[rv 67 a 150]).run Tryz.prog w = .ok (hdlI 67) w := by kernel_rfl
theorem as_nil (t : Value) (w : World) : Calls Tryz.prog 22 #[.nilIface, t] w fun e w' => e = .returned (.bool false) ∧ w = w' := by
  go_enter Tryz.func22, Tryz.ntmps22
  go_wp2
  go_ret
  exact ⟨rfl, rfl⟩
theorem e_mKind (h : Value) (w : World) : (Go.method 458 156 (.agg #[h]) "Kind").run Tryz.prog w = .ok (335, h) w := by kernel_rfl
theorem e_mElem (h : Value) (w : World) : (Go.method 458 156 (.agg #[h]) "Elem").run Tryz.prog w = .ok (349, .agg #[h]) w := by kernel_rfl
theorem e_mImpl (h : Value) (w : World) : (Go.method 458 156 (.agg #[h]) "Implements").run Tryz.prog w = .ok (350, .agg #[h]) w := by kernel_rfl
theorem e_mAssi (h : Value) (w : World) : (Go.method 458 156 (.agg #[h]) "AssignableTo").run Tryz.prog w = .ok (347, .agg #[h]) w := by kernel_rfl
theorem e_kndP (w : World) : ((ReflectliteType.abiMethod fun t => (fun a : Nat => Value.int IntKind.u8 (a : Int)) <$> Rtype.kind t) #[hdl 67]).run Tryz.prog w = .ok (.int .u8 22) w := by kernel_rfl
theorem e_kndT (w : World) : ((ReflectliteType.abiMethod fun t => (fun a : Nat => Value.int IntKind.u8 (a : Int)) <$> Rtype.kind t) #[hdl 65]).run Tryz.prog w = .ok (.int .u8 25) w := by kernel_rfl
theorem e_elmP (w : World) : (ReflectliteType.method ReflectliteType.elem #[.agg #[hdl 67]]).run Tryz.prog w = .ok (hdlI 65) w := by kernel_rfl
theorem e_impT (w : World) : (ReflectliteType.relation "Implements" ReflectliteType.implements_ #[.agg #[hdl 65], hdlI 53]).run Tryz.prog w = .ok (.bool true) w := by kernel_rfl
theorem e_tofT (v : Value) (w : World) : (ReflectliteType.typeOf #[.iface 65 v]).run Tryz.prog w = .ok (hdlI 65) w := by kernel_rfl
theorem e_assT (w : World) : (ReflectliteType.relation "AssignableTo" ReflectliteType.assignableTo #[.agg #[hdl 65], hdlI 65]).run Tryz.prog w = .ok (.bool true) w := by kernel_rfl
theorem e_prtP (a : Addr) (w : World) : (ReflectliteValue.parts (rv 67 a 150)).run Tryz.prog w = .ok (some (67, a, 150)) w := by kernel_rfl
theorem e_prtA (a : Addr) (w : World) : (ReflectliteValue.parts (rv 65 a 409)).run Tryz.prog w = .ok (some (65, a, 409)) w := by kernel_rfl
theorem e_prtT (a : Addr) (w : World) : (ReflectliteValue.parts (rv 65 a 153)).run Tryz.prog w = .ok (some (65, a, 153)) w := by kernel_rfl
theorem e_elmOf (w : World) : (Rtype.elem? 67).run Tryz.prog w = .ok (some 65) w := by kernel_rfl
theorem e_mkT (p : Addr) (w : World) : (ReflectliteValue.mk 65 p ReflectliteValue.flagAddr).run Tryz.prog w = .ok (rv 65 p 409) w := by kernel_rfl
theorem e_dirT (w : World) : (Rtype.directlyAssignable 65 65).run Tryz.prog w = .ok true w := by kernel_rfl
/-- A method of the library's Value goes by its three parts. -/
theorem e_meth (z : Sem Value) (f : TypeId → Addr → Nat → Nat → Sem Value) (v : Value) (t : TypeId) (a : Addr) (fl : Nat) (W : World) (h : (ReflectliteValue.parts v).run Tryz.prog W = .ok (some (t, a, fl)) W) :
    (ReflectliteValue.method z f #[v]).run Tryz.prog W = (f t a fl (fl % 32)).run Tryz.prog W := by
  refine (congrArg (fun x : Sem Value => Sem.run Tryz.prog x W) (show ReflectliteValue.method z f #[v] = (ReflectliteValue.parts v >>= _) from rfl)).trans ?_
  simp only [Sem.run_bind, h, Result.andThen]
theorem e_nilP (a p : Addr) (W : World) (ha : W.cell? a = some (.pointer (some p))) :
    (ReflectliteValue.method (ReflectliteValue.valueError "reflectlite.Value.IsNil" 0) ReflectliteValue.isNil #[rv 67 a 150]).run Tryz.prog W = .ok (.bool false) W := by
  rw [e_meth _ _ _ _ _ _ W (e_prtP a W)]
  simp [ReflectliteValue.isNil, loadVar, isAgg, underlying, Tryz.underlying67, ha, Result.andThen]
theorem e_elvP (a p : Addr) (W : World) (ha : W.cell? a = some (.pointer (some p))) :
    (ReflectliteValue.method (ReflectliteValue.valueError "reflectlite.Value.Elem" 0) ReflectliteValue.elem #[rv 67 a 150]).run Tryz.prog W = .ok (rv 65 p 409) W := by
  rw [e_meth _ _ _ _ _ _ W (e_prtP a W)]
  simp [ReflectliteValue.elem, loadVar, isAgg, underlying, Tryz.underlying67, ha, Result.andThen, e_elmOf, e_mkT]
theorem e_add0 (b : Addr) : b.add 0 = b := by
  obtain ⟨x, y, z⟩ := b
  cases z <;> simp [Addr.add]
theorem e_ldT (b : Addr) (n : Int) (W : World) (hb : W.cell? b = some (.int .i64 n)) : (loadVar 65 b).run Tryz.prog W = .ok (.agg #[.int .i64 n]) W := by
  have hs : (sizeOf 65).run Tryz.prog W = .ok 1 W := by kernel_rfl
  have hl := run_loadCells_list (P := Tryz.prog) W b [.int .i64 n] fun j v hv => by
    rcases j with _ | j
    · simp at hv; subst hv; rw [e_add0]; exact hb
    · simp at hv
  have hl' : Sem.run Tryz.prog (loadCells b 1) W = .ok #[.int .i64 n] W := by simpa using hl
  simp [loadVar, isAgg, underlying, Tryz.underlying65, Result.andThen, hs, hl']
theorem e_stT (t : Addr) (n : Int) (old : Value) (W : World) (ht : W.cell? t = some old) (hf : W.frozen? t = false) : (storeVar 65 t (.agg #[.int .i64 n])).run Tryz.prog W = .ok () (W.setCell t (.int .i64 n)) := by
  have hs : (sizeOf 65).run Tryz.prog W = .ok 1 W := by kernel_rfl
  have h1 := run_store Tryz.prog W t (.int .i64 n) .plain rfl
  rw [ht] at h1
  simp only [hf] at h1
  simp [storeVar, Value.cells, storeCells, e_add0, hs, Result.andThen]
  simpa using h1
theorem e_set (t b : Addr) (n : Int) (old : Value) (W : World) (hb : W.cell? b = some (.int .i64 n)) (ht : W.cell? t = some old) (hf : W.frozen? t = false) :
    (ReflectliteValue.set #[rv 65 t 409, rv 65 b 153]).run Tryz.prog W = .ok (.tuple #[]) (W.setCell t (.int .i64 n)) := by
  refine (congrArg (fun x : Sem Value => Sem.run Tryz.prog x W) (show ReflectliteValue.set #[rv 65 t 409, rv 65 b 153] = (ReflectliteValue.parts (rv 65 t 409) >>= fun p => ReflectliteValue.parts (rv 65 b 153) >>= fun q => _) from rfl)).trans ?_
  simp only [Sem.run_bind, e_prtA, e_prtT, Result.andThen]
  simp [ReflectliteValue.flagAddr, e_ldT b n W hb, Result.andThen, e_dirT, e_stT t n old W ht hf]
set_option maxHeartbeats 4000000 in
theorem as_hit (n : Int) (t : Addr) (old : Value) (w : World) (hand : Hand w) (ht0 : w.cell? t = some old) (hf0 : w.frozen? t = false) :
    Calls Tryz.prog 22 #[.iface 65 (.agg #[.int .i64 n]), .iface 67 (.pointer (some t))] w fun e w' => e = .returned (.bool true) ∧ Below t.block w w' := by
  have h6 := @run_callFunc_extern Tryz.prog 83 _ (fun args => ReflectliteValue.unpack (args.getD 0 (.tuple #[]))) Tryz.func83 (by kernel_rfl) (by kernel_rfl) (by kernel_rfl) (by kernel_rfl)
  have h7 := @run_callFunc_extern Tryz.prog 84 _ (ReflectliteValue.methodAny (ReflectliteValue.valueError "reflectlite.Value.Type" 0) (fun t _ _ _ => ReflectliteType.toType t)) Tryz.func84 (by kernel_rfl) (by kernel_rfl) (by kernel_rfl) (by kernel_rfl)
  have h8 := @run_callFunc_extern Tryz.prog 85 _ (ReflectliteValue.method (ReflectliteValue.valueError "reflectlite.Value.IsNil" 0) ReflectliteValue.isNil) Tryz.func85 (by kernel_rfl) (by kernel_rfl) (by kernel_rfl) (by kernel_rfl)
  have h9 := @run_callFunc_extern Tryz.prog 335 _ (ReflectliteType.abiMethod fun t => do pure (.int .u8 (← Rtype.kind t))) Tryz.func335 (by kernel_rfl) (by kernel_rfl) (by kernel_rfl) (by kernel_rfl)
  have h10 := @run_callFunc_extern Tryz.prog 349 _ (ReflectliteType.method ReflectliteType.elem) Tryz.func349 (by kernel_rfl) (by kernel_rfl) (by kernel_rfl) (by kernel_rfl)
  have h11 := @run_callFunc_extern Tryz.prog 350 _ (ReflectliteType.relation "Implements" ReflectliteType.implements_) Tryz.func350 (by kernel_rfl) (by kernel_rfl) (by kernel_rfl) (by kernel_rfl)
  have h12 := @run_callFunc_extern Tryz.prog 146 _ (ReflectliteType.typeOf) Tryz.func146 (by kernel_rfl) (by kernel_rfl) (by kernel_rfl) (by kernel_rfl)
  have h13 := @run_callFunc_extern Tryz.prog 347 _ (ReflectliteType.relation "AssignableTo" ReflectliteType.assignableTo) Tryz.func347 (by kernel_rfl) (by kernel_rfl) (by kernel_rfl) (by kernel_rfl)
  have h14 := @run_callFunc_extern Tryz.prog 147 _ (ReflectliteValue.method (ReflectliteValue.valueError "reflectlite.Value.Elem" 0) ReflectliteValue.elem) Tryz.func147 (by kernel_rfl) (by kernel_rfl) (by kernel_rfl) (by kernel_rfl)
  have h15 := @run_callFunc_extern Tryz.prog 148 _ (ReflectliteValue.set) Tryz.func148 (by kernel_rfl) (by kernel_rfl) (by kernel_rfl) (by kernel_rfl)
  have x0 := e_valP
  have x1 := e_valT
  have x2 := e_typP
  have x3 := e_mKind
  have x4 := e_mElem
  have x5 := e_mImpl
  have x6 := e_mAssi
  have x7 := e_kndP
  have x8 := e_kndT
  have x9 := e_elmP
  have x10 := e_impT
  have x11 := e_tofT
  have x12 := e_assT
  have htl : t.block < w.heap.size := World.block_lt_of_cell? w t ht0
  have hlt : 0 < w.heap.size := by have := hand.1; omega
  have hg := hand.2
  have n8 := e_nilP ⟨w.heap.size, 0, none⟩ t ((w.alloc (.cells #[.pointer (some t)] 67)).alloc (.cells #[hdl 67, .pointer (some ⟨w.heap.size, 0, none⟩), .int .u64 150] 106)) (by simp)
  have hg2 : ((w.alloc (.cells #[.pointer (some t)] 67)).alloc (.cells #[hdl 67, .pointer (some ⟨w.heap.size, 0, none⟩), .int .u64 150] 106)).cell? ⟨0, 0, none⟩ = some (hdlI 53) := by
    rw [World.cell?_alloc_lt _ _ ⟨0, 0, none⟩ (by simp), World.cell?_alloc_lt _ _ ⟨0, 0, none⟩ hlt]; exact hg
  have el := e_elvP ⟨w.heap.size, 0, none⟩ t (((w.alloc (.cells #[.pointer (some t)] 67)).alloc (.cells #[hdl 67, .pointer (some ⟨w.heap.size, 0, none⟩), .int .u64 150] 106)).alloc (.cells #[hdl 67, .pointer (some ⟨w.heap.size, 0, none⟩), .int .u64 150] 106)) (by rw [World.cell?_alloc_lt _ _ ⟨w.heap.size, 0, none⟩ (by simp; omega)]; simp)
  have st := e_set t ⟨w.heap.size + 1 + 1 + 1, 0, none⟩ n old ((((w.alloc (.cells #[.pointer (some t)] 67)).alloc (.cells #[hdl 67, .pointer (some ⟨w.heap.size, 0, none⟩), .int .u64 150] 106)).alloc (.cells #[hdl 67, .pointer (some ⟨w.heap.size, 0, none⟩), .int .u64 150] 106)).alloc (.cells #[.int .i64 n] 65))
    (by rw [World.cell?_alloc_at _ _ _ _ (by simp)]; rfl)
    (by rw [World.cell?_alloc_lt _ _ t (by simp; omega), World.cell?_alloc_lt _ _ t (by simp; omega), World.cell?_alloc_lt _ _ t (by simp; omega), World.cell?_alloc_lt _ _ t htl]; exact ht0)
    (by rw [World.frozen?_alloc_old _ _ t (by simp; omega), World.frozen?_alloc_old _ _ t (by simp; omega), World.frozen?_alloc_old _ _ t (by simp; omega), World.frozen?_alloc_old _ _ t (Nat.ne_of_lt htl)]; exact hf0)
  have fin : Below t.block w (((((w.alloc (.cells #[.pointer (some t)] 67)).alloc (.cells #[hdl 67, .pointer (some ⟨w.heap.size, 0, none⟩), .int .u64 150] 106)).alloc (.cells #[hdl 67, .pointer (some ⟨w.heap.size, 0, none⟩), .int .u64 150] 106)).alloc (.cells #[.int .i64 n] 65)).setCell t (.int .i64 n)) :=
    (((((Below.refl _ _).alloc (Nat.le_of_lt htl) _).alloc (by simp; omega) _).alloc (by simp; omega) _).alloc (by simp; omega) _).setCell (Nat.le_refl _) _
  have FIN := Lib.hid fin
  clear fin hg hand
  go_enter Tryz.func22, Tryz.ntmps22
  go_wp2
  refine wp_loop_rounds 1 ?_
  rw [rounds_succ]
  go_wp2
  go_ret
  exact ⟨rfl, FIN.out⟩
end Go.Proofs.YtehadbpbkenccaaGreatDoor
