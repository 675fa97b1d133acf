/- The words and their commands: the map that the program makes of them. -/
import Derived.Test.YtehadbpbkenccaaGreatDoorMA
import Derived.Laws.NewBlocks
namespace Go.Proofs.YtehadbpbkenccaaGreatDoor
open Go.ChangeShapes Go.WideShapes Go.ChangeAt Go.RowKit

/-- The words, each with its command. -/
def wordsL : List (ByteArray × Nat) := [(⟨#[114, 105, 110, 103, 32]⟩, 33), (⟨#[116, 101, 114, 109, 32]⟩, 34), (⟨#[98, 121, 32]⟩, 35), (⟨#[98, 97, 99, 107]⟩, 36), (⟨#[115, 119, 97, 112, 32]⟩, 37), (⟨#[112, 117, 116, 32]⟩, 38), (⟨#[100, 114, 111, 112]⟩, 39), (⟨#[97, 115, 105, 100, 101]⟩, 40), (⟨#[115, 104, 111, 119]⟩, 41), (⟨#[110, 117, 109, 98, 101, 114]⟩, 42), (⟨#[97, 115]⟩, 43), (⟨#[102, 97, 108, 108, 115]⟩, 44), (⟨#[99, 117, 116, 32]⟩, 45), (⟨#[110, 101, 120, 116, 32]⟩, 46), (⟨#[115, 116, 101, 112, 115, 32]⟩, 47), (⟨#[102, 114, 111, 109, 32]⟩, 48), (⟨#[116, 104, 114, 101, 101, 32]⟩, 49), (⟨#[112, 97, 114, 116, 115, 32]⟩, 50), (⟨#[119, 105, 110, 100]⟩, 51), (⟨#[112, 97, 116, 104]⟩, 52), (⟨#[100, 105, 102, 102, 101, 114]⟩, 53), (⟨#[102, 97, 114]⟩, 54), (⟨#[119, 97, 121]⟩, 55), (⟨#[99, 111, 109, 109, 111, 110]⟩, 56), (⟨#[119, 105, 110, 100, 115, 32]⟩, 57), (⟨#[102, 97, 114, 32]⟩, 58), (⟨#[110, 101, 97, 114]⟩, 59), (⟨#[112, 97, 114, 116, 32]⟩, 60), (⟨#[97, 114, 99, 115]⟩, 61), (⟨#[114, 117, 110, 115, 32]⟩, 62), (⟨#[104, 97, 115]⟩, 63), (⟨#[102, 114, 101, 101, 32]⟩, 64), (⟨#[115, 117, 109, 32]⟩, 65), (⟨#[102, 105, 114, 115, 116]⟩, 66), (⟨#[116, 105, 100, 121, 32]⟩, 67), (⟨#[102, 108, 97, 116, 32]⟩, 68), (⟨#[115, 101, 116, 115, 32]⟩, 69), (⟨#[115, 119, 97, 112, 115]⟩, 70), (⟨#[97, 116]⟩, 71)]
def entW (i : Nat) (x : ByteArray × Nat) : MapEntry := { key := .string x.1, val := .func (.func x.2) #[] #[], born := i }
def wordsE (k : Nat) : Array MapEntry := ((List.range k).map fun i => entW i (wordsL.getD i default)).toArray
/-- Maps written and asked by other names: what they give is laid as facts. -/
def muS (t : TypeId) (m k v : Value) : Sem Unit := Instr.mapUpdate t m k v
def lkS (t : TypeId) (m k : Value) (b : Bool) : Sem Value := Instr.lookup t m k b
theorem muS_fold (t : TypeId) (m k v : Value) : Instr.mapUpdate t m k v = muS t m k v := rfl
theorem lkS_fold (t : TypeId) (m k : Value) (b : Bool) : Instr.lookup t m k b = lkS t m k b := rfl
theorem wordsE_step (k : Nat) : wordsE (k + 1) = (wordsE k).push (entW k (wordsL.getD k default)) := by
  unfold wordsE
  rw [List.range_succ, List.map_append, List.push_toArray]
  rfl
theorem key_ok (b : Bool) (n : Nat) (k : ByteArray) (w : World) : (Instr.checkKey b (n + 1) 9 (.string k)).run Tryz.prog w = .ok () w := by
  unfold Instr.checkKey
  simp [go_sem]
theorem get_run {w : World} {r c : Nat} {es : Array MapEntry} (h : w.heap[r]? = some (.map es c)) : (getObj r).run Tryz.prog w = .ok (.map es c) w := by
  simp [getObj, Sem.run, h]
theorem set_run {w : World} {r c : Nat} {es : Array MapEntry} (h : w.heap[r]? = some (.map es c)) (o : Obj) : (setObj r o).run Tryz.prog w = .ok () { w with heap := w.heap.setIfInBounds r o } := by
  simp [setObj, Sem.run, h]
theorem map_new (w : World) : (Instr.makeMap 45 none).run Tryz.prog w = .ok (.map (some w.heap.size)) (w.alloc (.map #[] 0)) := by
  simp [Instr.makeMap, go_sem]
theorem words_put {w : World} {r c : Nat} {es : Array MapEntry} {k : ByteArray} {v : Value} (h : w.heap[r]? = some (.map es c)) (hf : Instr.findNow .string (.string k) es.toList 0 = some none) :
    (muS 45 (.map (some r)) (.string k) v).run Tryz.prog w = .ok () { w with heap := w.heap.setIfInBounds r (.map (es.push { key := .string k, val := v, born := c }) (c + 1)) } := by
  have hck := key_ok false 9999 k w
  simp only [Nat.reduceAdd] at hck
  have hg := get_run h
  have hso := set_run h
  unfold muS Instr.mapUpdate
  simp [go_sem, hg, hso, hck, Instr.findKey, hf]
theorem words_get {w : World} {r c i : Nat} {es : Array MapEntry} {k : ByteArray} {v : Value} (h : w.heap[r]? = some (.map es c)) (hf : Instr.findNow .string (.string k) es.toList 0 = some (some (i, v))) :
    (lkS 45 (.map (some r)) (.string k) true).run Tryz.prog w = .ok (.tuple #[v, .bool true]) w := by
  have hck := fun b => key_ok b 9999 k w
  simp only [Nat.reduceAdd] at hck
  have hg := get_run h
  unfold lkS Instr.lookup
  simp [go_sem, hg, hck, Instr.findKey, hf]
theorem words_alloc (w : World) (k : Nat) (x : ByteArray × Nat) (hx : wordsL.getD k default = x) (hf : Instr.findNow .string (.string x.1) (wordsE k).toList 0 = some none) :
    (muS 45 (.map (some w.heap.size)) (.string x.1) (.func (.func x.2) #[] #[])).run Tryz.prog (w.alloc (.map (wordsE k) k)) = .ok () (w.alloc (.map (wordsE (k + 1)) (k + 1))) := by
  have h : (w.alloc (.map (wordsE k) k)).heap[w.heap.size]? = some (.map (wordsE k) k) := heap_alloc_new w _
  rw [words_put h hf]
  have e : { w.alloc (.map (wordsE k) k) with heap := (w.alloc (.map (wordsE k) k)).heap.setIfInBounds w.heap.size (.map ((wordsE k).push { key := .string x.1, val := .func (.func x.2) #[] #[], born := k }) (k + 1)) } = w.alloc (.map (wordsE (k + 1)) (k + 1)) := by
    rw [wordsE_step, hx]
    unfold World.alloc entW
    simp only
    congr 1
    apply Array.ext_getElem?
    intro j
    rw [Array.getElem?_setIfInBounds]
    by_cases hj : w.heap.size = j
    · subst hj; simp
    · rw [if_neg hj, Array.getElem?_push, Array.getElem?_push]
      rw [if_neg (fun e => hj e.symm), if_neg (fun e => hj e.symm)]
  rw [e]

attribute [local go_sem ↓] muS_fold in
set_option maxRecDepth 100000 in
set_option maxHeartbeats 4000000 in
theorem words_any (w : World) : Calls Tryz.prog 13 #[] w fun e w' => e = .returned (.map (some w.heap.size)) ∧ w' = w.alloc (.map (wordsE 39) 39) := by
  have e0 : wordsE 0 = #[] := rfl
  have q0 := words_alloc w 0 (⟨#[114, 105, 110, 103, 32]⟩, 33) rfl (by kernel_rfl)
  have q1 := words_alloc w 1 (⟨#[116, 101, 114, 109, 32]⟩, 34) rfl (by kernel_rfl)
  have q2 := words_alloc w 2 (⟨#[98, 121, 32]⟩, 35) rfl (by kernel_rfl)
  have q3 := words_alloc w 3 (⟨#[98, 97, 99, 107]⟩, 36) rfl (by kernel_rfl)
  have q4 := words_alloc w 4 (⟨#[115, 119, 97, 112, 32]⟩, 37) rfl (by kernel_rfl)
  have q5 := words_alloc w 5 (⟨#[112, 117, 116, 32]⟩, 38) rfl (by kernel_rfl)
  have q6 := words_alloc w 6 (⟨#[100, 114, 111, 112]⟩, 39) rfl (by kernel_rfl)
  have q7 := words_alloc w 7 (⟨#[97, 115, 105, 100, 101]⟩, 40) rfl (by kernel_rfl)
  have q8 := words_alloc w 8 (⟨#[115, 104, 111, 119]⟩, 41) rfl (by kernel_rfl)
  have q9 := words_alloc w 9 (⟨#[110, 117, 109, 98, 101, 114]⟩, 42) rfl (by kernel_rfl)
  have q10 := words_alloc w 10 (⟨#[97, 115]⟩, 43) rfl (by kernel_rfl)
  have q11 := words_alloc w 11 (⟨#[102, 97, 108, 108, 115]⟩, 44) rfl (by kernel_rfl)
  have q12 := words_alloc w 12 (⟨#[99, 117, 116, 32]⟩, 45) rfl (by kernel_rfl)
  have q13 := words_alloc w 13 (⟨#[110, 101, 120, 116, 32]⟩, 46) rfl (by kernel_rfl)
  have q14 := words_alloc w 14 (⟨#[115, 116, 101, 112, 115, 32]⟩, 47) rfl (by kernel_rfl)
  have q15 := words_alloc w 15 (⟨#[102, 114, 111, 109, 32]⟩, 48) rfl (by kernel_rfl)
  have q16 := words_alloc w 16 (⟨#[116, 104, 114, 101, 101, 32]⟩, 49) rfl (by kernel_rfl)
  have q17 := words_alloc w 17 (⟨#[112, 97, 114, 116, 115, 32]⟩, 50) rfl (by kernel_rfl)
  have q18 := words_alloc w 18 (⟨#[119, 105, 110, 100]⟩, 51) rfl (by kernel_rfl)
  have q19 := words_alloc w 19 (⟨#[112, 97, 116, 104]⟩, 52) rfl (by kernel_rfl)
  have q20 := words_alloc w 20 (⟨#[100, 105, 102, 102, 101, 114]⟩, 53) rfl (by kernel_rfl)
  have q21 := words_alloc w 21 (⟨#[102, 97, 114]⟩, 54) rfl (by kernel_rfl)
  have q22 := words_alloc w 22 (⟨#[119, 97, 121]⟩, 55) rfl (by kernel_rfl)
  have q23 := words_alloc w 23 (⟨#[99, 111, 109, 109, 111, 110]⟩, 56) rfl (by kernel_rfl)
  have q24 := words_alloc w 24 (⟨#[119, 105, 110, 100, 115, 32]⟩, 57) rfl (by kernel_rfl)
  have q25 := words_alloc w 25 (⟨#[102, 97, 114, 32]⟩, 58) rfl (by kernel_rfl)
  have q26 := words_alloc w 26 (⟨#[110, 101, 97, 114]⟩, 59) rfl (by kernel_rfl)
  have q27 := words_alloc w 27 (⟨#[112, 97, 114, 116, 32]⟩, 60) rfl (by kernel_rfl)
  have q28 := words_alloc w 28 (⟨#[97, 114, 99, 115]⟩, 61) rfl (by kernel_rfl)
  have q29 := words_alloc w 29 (⟨#[114, 117, 110, 115, 32]⟩, 62) rfl (by kernel_rfl)
  have q30 := words_alloc w 30 (⟨#[104, 97, 115]⟩, 63) rfl (by kernel_rfl)
  have q31 := words_alloc w 31 (⟨#[102, 114, 101, 101, 32]⟩, 64) rfl (by kernel_rfl)
  have q32 := words_alloc w 32 (⟨#[115, 117, 109, 32]⟩, 65) rfl (by kernel_rfl)
  have q33 := words_alloc w 33 (⟨#[102, 105, 114, 115, 116]⟩, 66) rfl (by kernel_rfl)
  have q34 := words_alloc w 34 (⟨#[116, 105, 100, 121, 32]⟩, 67) rfl (by kernel_rfl)
  have q35 := words_alloc w 35 (⟨#[102, 108, 97, 116, 32]⟩, 68) rfl (by kernel_rfl)
  have q36 := words_alloc w 36 (⟨#[115, 101, 116, 115, 32]⟩, 69) rfl (by kernel_rfl)
  have q37 := words_alloc w 37 (⟨#[115, 119, 97, 112, 115]⟩, 70) rfl (by kernel_rfl)
  have q38 := words_alloc w 38 (⟨#[97, 116]⟩, 71) rfl (by kernel_rfl)
  simp only [Nat.reduceAdd, e0] at q0 q1 q2 q3 q4 q5 q6 q7 q8 q9 q10 q11 q12 q13 q14 q15 q16 q17 q18 q19 q20 q21 q22 q23 q24 q25 q26 q27 q28 q29 q30 q31 q32 q33 q34 q35 q36 q37 q38
  have hmm := map_new
  go_enter Tryz.func13, Tryz.ntmps13
  go_wp2
  go_ret
  exact ⟨rfl, rfl⟩
end Go.Proofs.YtehadbpbkenccaaGreatDoor
