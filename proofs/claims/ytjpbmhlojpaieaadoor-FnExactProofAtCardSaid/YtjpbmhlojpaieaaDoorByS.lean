/- The model's ring by its number. -/
import Derived.Test.YtjpbmhlojpaieaaDoorByM
import Derived.Deep.RegionLaw
import Derived.IntWalk
import Derived.Maps.AppendAt
namespace Go.Proofs.YtjpbmhlojpaieaaDoor
open Go.ChangeShapes Go.WideShapes Go.ChangeAt Go.RowKit

/-- An append onto a row of the call's own, as one step of a region that draws its order. -/
theorem step_append_at {ops : Array Oper} {o : Oper} {a : Act} {K : Act → World → Prop} {Q : Exit → Act → World → Prop} {E : Prop} (w : World) (hgd : o.guard = none) (s x : Operand)
    (ho : o.op = .call { callee := .builtin .append, args := #[s, x], argTypes := #[22, 22] })
    (B : Nat) (v : Value) (n : Nat) (xs : List Value) (hs : a.eval s = v) (hown : w.ownsRow B 3 1 v n xs)
    (ad : Addr) (m c : Nat) (news : List Int) (hx : a.eval x = .slice (some ad) m c) (hl : news.length = m) (hnews : ∀ j u, (ints news)[j]? = some u → w.cell? (ad.add j) = some u)
    (h63 : n + m ≤ 1048576) (hbase : B ≤ w.heap.size)
    (h : ∀ v' w', w'.ownsRow B 3 1 v' (n + m) (xs ++ ints news) → w.grownBy w' v.ownBlock → (v'.ownBlock = v.ownBlock ∨ v'.ownBlock = some w.heap.size) → K (a.put o.dst v') w') :
    if Region.wanted o (yielded ops a.tmps) = true then Oper.wp Tryd.prog o a w K Q else E := by
  have hw : Region.wanted o (yielded ops a.tmps) = true := by simp [Region.wanted, hgd]
  rw [if_pos hw]
  obtain ⟨i0, hi, hz0, hz1, hz2⟩ := info_parts int_info
  obtain ⟨v', w', hr, h2, h3, _, h5⟩ := run_append_own_at (P := Tryd.prog) w B 22 o.type 3 i0 (.int .i64 0) 1 8 Tryd.underlying22 hi hz0 hz1 hz2 rfl (by decide) v n xs hown ad m c (ints news) (by simp [hl]) hnews (ints_oneCell news) (by unfold maxLen; omega) (by omega) hbase
  unfold Oper.wp execOp
  simp only [ho, resolve, invoke, builtin, Sem.run_bind, Sem.run_pure, Result.andThen_ok, List.map_toArray, List.map_cons, List.map_nil, hs, hx, hr]
  exact h v' w' h2 h3 h5

theorem elem_ints : Tryd.prog.elem 22 = 3 := by kernel_rfl

/-- The head of a slice up to a length. -/
theorem slice_head (W : World) (g n c m : Nat) (hm : m ≤ c) :
    (Instr.slice 22 (.slice (some ⟨g, 0, none⟩) n c) none (some (.int .i64 (m : Int))) none).run Tryd.prog W = .ok (.slice (some ⟨g, 0, none⟩) m c) W := by
  obtain ⟨i, hi, _, hs, _⟩ := info_parts int_info
  have h := run_slice_h (P := Tryd.prog) W 22 (some ⟨g, 0, none⟩) n c (by rw [elem_ints]; exact Tryd.underlying22) .i64 (m : Int) (by omega) (by omega)
  rw [h, elem_ints, run_sizeOf W hi, Result.andThen_ok]
  simp [sliced, Addr.add]

/-- The tail of a slice from a place on. -/
theorem slice_tail (W : World) (g n c m : Nat) (hm : m ≤ n) (_ : n ≤ c) :
    (Instr.slice 22 (.slice (some ⟨g, 0, none⟩) n c) (some (.int .i64 (m : Int))) none none).run Tryd.prog W = .ok (.slice (some (if c = m then ⟨g, 0, none⟩ else ⟨g, m, none⟩)) (n - m) (c - m)) W := by
  obtain ⟨i, hi, _, hs, _⟩ := info_parts int_info
  have h := run_slice_l (P := Tryd.prog) W 22 (some ⟨g, 0, none⟩) n c (by rw [elem_ints]; exact Tryd.underlying22) .i64 (m : Int) (by omega) (by omega)
  rw [h, elem_ints, run_sizeOf W hi, Result.andThen_ok, cells_int]
  by_cases e : c = m
  · simp [sliced, e]
  · simp [sliced, e, Addr.add_lit]

end Go.Proofs.YtjpbmhlojpaieaaDoor
