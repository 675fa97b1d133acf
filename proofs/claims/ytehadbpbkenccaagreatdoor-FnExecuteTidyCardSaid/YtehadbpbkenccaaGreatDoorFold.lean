/- Loads, stores and appends by other names: inside a region that draws its order, what they give is laid as a fact. -/
import Derived.Test.YtehadbpbkenccaaGreatDoorPE
import Derived.Test.YtehadbpbkenccaaGreatDoorMA
namespace Go.Proofs.YtehadbpbkenccaaGreatDoor
open Go.ChangeShapes Go.WideShapes Go.ChangeAt Go.RowKit

/-- Whole rings loaded and stored, by other names: what they give is laid as facts. -/
def ldR (p : Addr) : Sem Value := loadVar 31 p
def stR (p : Addr) (v : Value) : Sem Unit := storeVar 31 p v
theorem ldR_fold (p : Addr) : loadVar 31 p = ldR p := rfl
theorem stR_fold (p : Addr) (v : Value) : storeVar 31 p v = stR p v := rfl
theorem ldR_run {w : World} {g : Nat} {P : List Int} (h : Arr w g P) (hP : P.length = 7) : (ldR ⟨g, 0, none⟩).run Tryz.prog w = .ok (.agg (ints P).toArray) w :=
  run_loadVar_row (P := Tryz.prog) w g 31 31 _ (0, 0) _ h Tryz.underlying31 rfl (by rw [ring_size]; simp [hP])
theorem stR_run {w : World} {g : Nat} {P Q : List Int} (h : Arr w g P) (hP : P.length = 7) (hQ : Q.length = 7) : ∃ w', (stR ⟨g, 0, none⟩ (.agg (ints Q).toArray)).run Tryz.prog w = .ok () w' ∧ Arr w' g Q ∧ w.grownBy w' (some g) ∧ w'.heap.size = w.heap.size := by
  refine ⟨w.setRow g (ints Q).toArray, ?_, ?_, ?_, ?_⟩
  · have hs := run_storeCells_at Tryz.prog g 0 31 (ints Q) 0 _ w h (by simp [hP, hQ]) (ints_oneCell Q)
    cases hq : Tryz.prog.info? 31 with
    | none => have := ring_size; simp [hq] at this
    | some i =>
      have hsz : i.size = 7 := by have := ring_size; simpa [hq] using this
      have e : (ints P).toArray.toList.take 0 ++ ints Q ++ (ints P).toArray.toList.drop (0 + 0 + (ints Q).length) = ints Q := by simp [hQ, ints, hP]
      simp only [Nat.add_zero] at hs
      unfold stR
      simp [storeVar, sizeOf, typeInfo, hq, Value.cells, hsz, hQ, hs]
      rw [List.drop_eq_nil_of_le (by simp [hP])]
      simp
  · exact setRow_heap w g _ _ _ _ h
  · exact ⟨rfl, rfl, rfl, by simp, fun k _ hk => setRow_other w g k _ (fun e => hk (by simp [e]))⟩
  · simp

/-- An append to a row of ints of the call's own, by another name. -/
def apI (ts : Array TypeId) (ty : TypeId) (args : Array Value) : Sem Value := Builtin.append_ ts ty args
theorem apI_fold (ts : Array TypeId) (ty : TypeId) (args : Array Value) : Builtin.append_ ts ty args = apI ts ty args := rfl
theorem apI_runL {V : World} {B : Nat} {v : Value} {C : List Int} (h : Own V B v C) (hB : B ≤ V.heap.size) (hl : C.length ≤ 1048576) (x : Int) :
    ∃ v' w', (∀ ty, (apI #[41, 41] ty #[v, .slice (some ⟨V.heap.size, 0, none⟩) 1 1]).run Tryz.prog (V.alloc (.cells #[.int .i64 x] 3)) = .ok v' w') ∧ Own w' B v' (C ++ [x]) ∧ (V.alloc (.cells #[.int .i64 x] 3)).grownBy w' v.ownBlock := by
  obtain ⟨i0, hi, hz0, hz1, hz2⟩ := info_parts int_info
  obtain ⟨v', w', hrun, hown, hgr, _⟩ := run_append_own (P := Tryz.prog) (V.alloc (.cells #[.int .i64 x] 3)) B 41 41 3 i0 (.int .i64 0) 1 8 Tryz.underlying41 hi hz0 hz1 hz2 rfl (by decide) v C.length (ints C) (World.ownsRow.alloc h _) ⟨V.heap.size, 0, none⟩ 1 1 [.int .i64 x] rfl (one_cell V _ _) (by simp [Value.oneCell']) (by unfold maxLen; omega) (by omega) (by simp; omega)
  exact ⟨v', w', fun _ => hrun, by unfold Own; simpa [ints] using hown, hgr⟩
theorem apI_run {V : World} {B : Nat} {v : Value} {C : List Int} (h : Own V B v C) (hB : B ≤ V.heap.size) (hl : C.length ≤ 3000) (x : Int) :
    ∃ v' w', (∀ ty, (apI #[41, 41] ty #[v, .slice (some ⟨V.heap.size, 0, none⟩) 1 1]).run Tryz.prog (V.alloc (.cells #[.int .i64 x] 3)) = .ok v' w') ∧ Own w' B v' (C ++ [x]) ∧ (V.alloc (.cells #[.int .i64 x] 3)).grownBy w' v.ownBlock := apI_runL h hB (by omega) x
theorem apI_below {V w' : World} {B D : Nat} {v : Value} {C : List Int} {x : Int} (h : Own V B v C) (hg : (V.alloc (.cells #[.int .i64 x] 3)).grownBy w' v.ownBlock) {w : World} (hD : D ≤ B) (hb : Below D w V) (hV : D ≤ V.heap.size) : Below D w w' :=
  (hb.alloc hV _).grown hg (by simp; omega) fun k hk => Nat.le_trans hD (World.ownsRow.lt h k hk).1
end Go.Proofs.YtehadbpbkenccaaGreatDoor
