/- Scripts told as lines: how a text comes apart. Plain lemmas. -/
import Derived.Lib.SplitLaws
import Derived.Lib.IndexMore
namespace Go.Proofs.YtehadbpbkenccaaGreatDoor
open Go

theorem index_at (c : UInt8) (b : List UInt8) : ∀ a : List UInt8, c ∉ a → Lib.index (a ++ c :: b) [c] = (a.length : Int)
  | [], _ => by
    show Lib.index (c :: b) [c] = 0
    unfold Lib.index
    simp [List.isPrefixOf]
  | x :: a, h => by
    have hx : ¬ c = x := fun e => h (by rw [e]; exact List.mem_cons_self)
    have ih := index_at c b a (fun hm => h (List.mem_cons_of_mem _ hm))
    show Lib.index (x :: (a ++ c :: b)) [c] = _
    unfold Lib.index
    rw [ih]
    have h1 : ([c] : List UInt8).isPrefixOf (x :: (a ++ c :: b)) = false := by simp [List.isPrefixOf, hx]
    have h2 : ((a.length : Int) == -1) = false := by simp
    rw [h1, h2]
    simp
theorem index_none (c : UInt8) : ∀ a : List UInt8, c ∉ a → Lib.index a [c] = -1
  | [], _ => rfl
  | x :: a, h => by
    have hx : ¬ c = x := fun e => h (by rw [e]; exact List.mem_cons_self)
    have ih := index_none c a (fun hm => h (List.mem_cons_of_mem _ hm))
    unfold Lib.index
    rw [ih]
    have h1 : ([c] : List UInt8).isPrefixOf (x :: a) = false := by simp [List.isPrefixOf, hx]
    rw [h1]
    simp
/-- A script: each line with its end. -/
def script : List (List UInt8) → List UInt8
  | [] => []
  | l :: ls => l ++ 10 :: script ls
theorem script_split : ∀ ls : List (List UInt8), (∀ l ∈ ls, (10 : UInt8) ∉ l) → Lib.splitK [10] 0 ls.length (script ls) = ls ++ [[]]
  | [], _ => rfl
  | l :: ls, h => by
    have hi := index_at 10 (script ls) l (h l List.mem_cons_self)
    have ih := script_split ls (fun x hx => h x (List.mem_cons_of_mem _ hx))
    show Lib.splitK [10] 0 (ls.length + 1) (l ++ 10 :: script ls) = _
    unfold Lib.splitK
    rw [hi]
    have h2 : ((l.length : Int) == -1) = false := by simp
    rw [h2]
    simp [ih]
theorem script_count : ∀ ls : List (List UInt8), (∀ l ∈ ls, (10 : UInt8) ∉ l) → Lib.count (script ls) [10] = ls.length
  | [], _ => by rw [Lib.count_one]; rfl
  | l :: ls, h => by
    have ih := script_count ls (fun x hx => h x (List.mem_cons_of_mem _ hx))
    rw [Lib.count_one] at ih ⊢
    show (l ++ 10 :: script ls).count 10 = _
    rw [List.count_append, List.count_cons, ih, List.count_eq_zero.2 (h l List.mem_cons_self)]
    simp
theorem script_pieces (t : ByteArray) (ls : List (List UInt8)) (h : ∀ l ∈ ls, (10 : UInt8) ∉ l) (ht : t.data.toList = script ls) :
    Lib.countB t ⟨#[10]⟩ = ls.length ∧ Lib.splitB ⟨#[10]⟩ 0 ls.length t = (ls ++ [[]]).map fun l : List UInt8 => (⟨l.toArray⟩ : ByteArray) := by
  refine ⟨?_, ?_⟩
  · show Lib.count t.data.toList [10] = _
    rw [ht, script_count ls h]
  · have e := Lib.splitB_data ⟨#[10]⟩ 0 ls.length t
    rw [ht] at e
    have e2 : Lib.splitK ((⟨#[10]⟩ : ByteArray).data.toList) 0 ls.length (script ls) = ls ++ [[]] := script_split ls h
    rw [e2] at e
    rw [← e, List.map_map]
    conv => lhs; rw [← List.map_id (Lib.splitB ⟨#[10]⟩ 0 ls.length t)]
    refine List.map_congr_left fun x _ => ?_
    simp
/-- A line's word, cut off at its first space. -/
theorem cut_word (a b : List UInt8) (h : (32 : UInt8) ∉ a) : Lib.cut (a ++ 32 :: b) [32] = (a, b, true) := by
  unfold Lib.cut
  rw [index_at 32 b a h, if_pos (by omega)]
  simp
theorem cut_none (a : List UInt8) (h : (32 : UInt8) ∉ a) : Lib.cut a [32] = (a, [], false) := by
  unfold Lib.cut
  rw [index_none 32 a h, if_neg (by omega)]
end Go.Proofs.YtehadbpbkenccaaGreatDoor
