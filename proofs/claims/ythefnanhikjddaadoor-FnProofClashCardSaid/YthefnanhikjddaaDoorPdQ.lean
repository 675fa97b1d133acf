/- A proof as a variable: three cells; loads and stores of the whole by other names. -/
import Derived.Test.YthefnanhikjddaaDoorFold
namespace Go.Proofs.YthefnanhikjddaaDoor
open Go.ChangeShapes Go.WideShapes Go.ChangeAt Go.RowKit

abbrev PfB (w : World) (g : Nat) (cs : List Value) : Prop := w.heap[g]? = some (.cells cs.toArray 52 (0, 0))
def ldP (p : Addr) : Sem Value := loadVar 52 p
def stP (p : Addr) (v : Value) : Sem Unit := storeVar 52 p v
theorem ldP_fold (p : Addr) : loadVar 52 p = ldP p := rfl
theorem stP_fold (p : Addr) (v : Value) : storeVar 52 p v = stP p v := rfl
theorem pf_size : (Tryd.prog.info? 52).map (·.size) = some 3 := by kernel_rfl
theorem ldP_run {w : World} {g : Nat} {cs : List Value} (h : PfB w g cs) (hl : cs.length = 3) : (ldP ⟨g, 0, none⟩).run Tryd.prog w = .ok (.agg cs.toArray) w :=
  run_loadVar_row (P := Tryd.prog) w g 52 52 _ (0, 0) _ h Tryd.underlying52 rfl (by rw [pf_size]; simp [hl])
theorem stP_run {w : World} {g : Nat} {cs ds : List Value} (h : PfB w g cs) (hl : cs.length = 3) (hd : ds.length = 3) (h1 : ∀ v ∈ ds, v.oneCell' = true) : ∃ w', (stP ⟨g, 0, none⟩ (.agg ds.toArray)).run Tryd.prog w = .ok () w' ∧ PfB w' g ds ∧ w.grownBy w' (some g) ∧ w'.heap.size = w.heap.size := by
  refine ⟨w.setRow g ds.toArray, ?_, ?_, ?_, ?_⟩
  · have hs := run_storeCells_at Tryd.prog g 0 52 ds 0 _ w h (by simp [hl, hd]) h1
    cases hq : Tryd.prog.info? 52 with
    | none => have := pf_size; simp [hq] at this
    | some i =>
      have hsz : i.size = 3 := by have := pf_size; simpa [hq] using this
      have e : cs.toArray.toList.take 0 ++ ds ++ cs.toArray.toList.drop (0 + 0 + ds.length) = ds := by simp [hl, hd]
      simp only [Nat.add_zero] at hs
      unfold stP
      simp [storeVar, sizeOf, typeInfo, hq, Value.cells, hsz, hd, hs]
      rw [List.drop_eq_nil_of_le (by simp [hl])]
      simp
  · exact setRow_heap w g _ _ _ _ h
  · exact ⟨rfl, rfl, rfl, by simp, fun k _ hk => setRow_other w g k _ (fun e => hk (by simp [e]))⟩
  · simp
theorem PfB.keep {w w' : World} {g D : Nat} {cs : List Value} (h : PfB w g cs) (hb : Below D w w') (hD : g < D) : PfB w' g cs := (hb.block g hD).trans h
/-- A result that is a proof and one more. -/
theorem results_pf2 {fn : Func} {p t : Tmp} (h : fn.results = #[.cell p 52, .tmp t]) (tmps : Array Value) (w : World) (g : Nat) (cs : List Value) (hP : cs.length = 3)
    (hp : tmps.getD p undef = .pointer (some ⟨g, 0, none⟩)) (hg : Hid (PfB w g cs)) : (results fn tmps).run Tryd.prog w = .ok (.tuple #[.agg cs.toArray, tmps.getD t undef]) w := by
  have hp' : tmps[p]?.getD undef = .pointer (some ⟨g, 0, none⟩) := by simpa using hp
  have hl := run_loadVar_row (P := Tryd.prog) w g 52 52 _ (0, 0) _ hg.out Tryd.underlying52 rfl (by rw [pf_size]; simp [hP])
  simp [results, h, hp', asAddr, hl]
theorem ret_pf2 {fn : Func} {R : Ending → World → Prop} {a : Act} {w : World} {p t : Tmp} (h : fn.results = #[.cell p 52, .tmp t]) (g : Nat) (cs : List Value) (hP : cs.length = 3) (hp : a.tmps.getD p undef = .pointer (some ⟨g, 0, none⟩))
    (hg : Hid (PfB w g cs)) (hd : a.defers = []) (hR : R (.returned (.tuple #[.agg cs.toArray, a.tmps.getD t undef])) w) : bodyPost Tryd.prog fn R .ret a w :=
  bodyPost_ret (results_pf2 h _ _ g cs hP hp hg) hd hR
end Go.Proofs.YthefnanhikjddaaDoor
