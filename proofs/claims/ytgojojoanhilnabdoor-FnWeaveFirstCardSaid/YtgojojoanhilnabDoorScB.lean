/- A drawer's slice of rows in the midst of its making. -/
import Derived.Test.YtgojojoanhilnabDoorDraw14
import Derived.Test.YtgojojoanhilnabDoorRwS
namespace Go.Proofs.YtgojojoanhilnabDoor
open Go.ChangeShapes Go.WideShapes Go.ChangeAt Go.RowKit

/-- An append to a slice of rows, by another name. -/
def apS (ts : Array TypeId) (ty : TypeId) (args : Array Value) : Sem Value := Builtin.append_ ts ty args
theorem apS_fold (ts : Array TypeId) (ty : TypeId) (args : Array Value) : Builtin.append_ ts ty args = apS ts ty args := rfl
theorem rowS_one {w : World} {B : Nat} {u : Value} {l : List Int} (h : RowV w B u l) : u.oneCell' = true := by
  obtain ⟨A, d, rfl, _⟩ := h.2
  rfl
theorem apS_run {V : World} {B : Nat} {v u : Value} {L : List (List Int)} {l : List Int} (h : GrowS V B v L) (hB : B ≤ V.heap.size) (hu : RowV V B u l) (hl : L.length ≤ 3000) :
    ∃ v' w', (∀ ty, (apS #[23, 23] ty #[v, .slice (some ⟨V.heap.size, 0, none⟩) 1 1]).run Tryd.prog (V.alloc (.cells #[u] 26)) = .ok v' w') ∧ GrowS w' B v' (L ++ [l]) ∧ (V.alloc (.cells #[u] 26)).grownBy w' v.ownBlock ∧ (∀ k, v.ownBlock = some k → B ≤ k) := by
  obtain ⟨xs, h1, h2⟩ := h
  obtain ⟨i0, hi, hz0, hz1, hz2⟩ := info_parts row_info
  obtain ⟨v', w', hrun, hown, hgr, _⟩ := run_append_own (P := Tryd.prog) (V.alloc (.cells #[u] 26)) B 23 23 26 i0 (.slice none 0 0) 1 24 Tryd.underlying23 hi hz0 hz1 hz2 rfl (by decide) v L.length xs (h1.alloc _) ⟨V.heap.size, 0, none⟩ 1 1 [u] rfl (one_cell V _ _) (by simpa using rowS_one hu) (by unfold maxLen; omega) (by omega) (by simp; omega)
  exact ⟨v', w', fun _ => hrun, grow_row rfl h1 h2 hu _ hown hgr, hgr, fun k hk => (h1.lt k hk).1⟩
theorem growS_dn {w : World} {B B' : Nat} {v : Value} {L : List (List Int)} (h : GrowS w B v L) (hB : B' ≤ B) : GrowS w B' v L := by
  obtain ⟨xs, h1, h2⟩ := h
  refine ⟨xs, ⟨h1.1, ?_⟩, fun k hk => ?_⟩
  · rcases h1.2 with e | ⟨g, cap, cur, e, hb, rest⟩
    · exact .inl e
    · exact .inr ⟨g, cap, cur, e, by omega, rest⟩
  · obtain ⟨vk, h3, h4⟩ := h2 k hk
    exact ⟨vk, h3, h4.less hB⟩
theorem rwS_of {w : World} {B : Nat} {v : Value} {L : List (List Int)} (h : GrowS w B v L) (ht : tot L ≤ 1048576) : ∃ A n c, v = .slice A n c ∧ RwS w A n c L ∧ n ≤ c ∧ c ≤ 9223372036854775807 := by
  obtain ⟨A, c, rfl, h1, h2⟩ := h.slice
  exact ⟨A, _, c, rfl, ⟨⟨h.rd.2, ht⟩, Nat.zero_le _⟩, h1, h2⟩
theorem tot_le8 {L : List (List Int)} (h : ∀ l ∈ L, l.length ≤ 8) (hl : L.length ≤ 100) : tot L ≤ 1048576 := by
  have key : ∀ k, k ≤ L.length → sumTo L k ≤ 8 * k := fun k => by
    induction k with
    | zero => intro _; simp [sumTo]
    | succ k ih =>
      intro hk
      have h1 := ih (by omega)
      have h2 := h _ (rowK_mem (show k < L.length by omega))
      simp only [sumTo]
      omega
  have := key L.length (Nat.le_refl _)
  unfold tot
  omega
/-- What stands in the midst of the drawing: the rows so far, the reader, the bytes. -/
structure ScB (w3 : World) (R H n c q : Nat) (A : Option Addr) (V : World) (v : Value) (L : List (List Int)) : Prop where
  g : GrowS V w3.heap.size v L
  r : RdAt V R A n c q
  y : Byt V H A n
  t : w3.grownBy V (some R)
section
variable {w3 V V' : World} {R H n c q q' : Nat} {A : Option Addr} {v : Value} {L : List (List Int)}
theorem ScB.grow (h : ScB w3 R H n c q A V v L) (hR : R < w3.heap.size) (hH : H ≤ R) (hg : V.grownBy V' (some R)) (hr : RdAt V' R A n c q') : ScB w3 R H n c q' A V' v L :=
  ⟨h.g.keep fun j hj1 hj2 => hg.block j hj2 (fun e => by have := Option.some.inj e; omega), hr, h.y.grown hg hH, grown_trans h.t hg⟩
theorem ScB.drewN (h : ScB w3 R H n c q A V v L) (k : Nat) : ScB w3 R H n c q A (V.drewN k) v L := ⟨h.g.drewN k, h.r, h.y.keep (fun _ _ _ => rfl), ⟨h.t.os, h.t.tape, h.t.output, h.t.size, h.t.block⟩⟩
theorem ScB.drew (h : ScB w3 R H n c q A V v L) : ScB w3 R H n c q A V.drew v L := ⟨h.g.drew, h.r, h.y.keep (fun _ _ _ => rfl), ⟨h.t.os, h.t.tape, h.t.output, h.t.size, h.t.block⟩⟩
theorem ScB.alloc (h : ScB w3 R H n c q A V v L) (hR : R < w3.heap.size) (hH : H ≤ R) (o : Obj) : ScB w3 R H n c q A (V.alloc o) v L :=
  h.grow hR hH (World.grownBy_alloc V o (some R)) (h.r.same (Below.heap_alloc V o R h.r.lt))
theorem ScB.size (h : ScB w3 R H n c q A V v L) : w3.heap.size ≤ V.heap.size := h.t.size
theorem ScB.app {w7 : World} {v7 : Value} {L' : List (List Int)} {o : Obj} (h : ScB w3 R H n c q A V v L) (hR : R < w3.heap.size) (hH : H ≤ R) (g7 : GrowS w7 w3.heap.size v7 L') (b7 : (V.alloc o).grownBy w7 v.ownBlock) (d7 : ∀ k, v.ownBlock = some k → w3.heap.size ≤ k) : ScB w3 R H n c q A w7 v7 L' := by
  have hs := h.size
  have hk : ∀ j, j < w3.heap.size → w7.heap[j]? = V.heap[j]? := fun j hj => (b7.block j (by simp; omega) (fun e => by have := d7 j e.symm; omega)).trans (Below.heap_alloc V o j (by omega))
  exact ⟨g7, h.r.same (hk R hR), h.y.keep (fun b o hb => World.cell?_of_block (hk b (by omega))), ⟨b7.os.trans h.t.os, b7.tape.trans h.t.tape, b7.output.trans h.t.output, by have := b7.size; simp at this; omega, fun j hj hjR => (hk j hj).trans (h.t.block j hj hjR)⟩⟩
end
end Go.Proofs.YtgojojoanhilnabDoor
