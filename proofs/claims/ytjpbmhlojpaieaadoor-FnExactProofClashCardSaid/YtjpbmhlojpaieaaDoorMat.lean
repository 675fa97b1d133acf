/- Slices of slices of ints: those that are read, and those that are the call's own; what a marking leaves. -/
import Derived.Test.YtjpbmhlojpaieaaDoorOwn
namespace Go.Proofs.YtjpbmhlojpaieaaDoor
open Go.ChangeShapes Go.WideShapes Go.ChangeAt Go.RowKit

/-- The row k of a list of lists. -/
abbrev rowK (L : List (List Int)) (k : Nat) : List Int := L.getD k []

/-- The slice of slices with address A and n rows reads in w as L, in blocks below B; each row has its length as capacity at least. -/
def RdS (w : World) (B : Nat) (A : Option Addr) (n : Nat) (L : List (List Int)) : Prop :=
  L.length = n ∧ (0 < n → ∃ b o, A = some ⟨b, o, none⟩ ∧ b < B ∧ ∀ k, k < n → ∃ Ak ck, w.cell? ⟨b, o + k, none⟩ = some (.slice Ak (rowK L k).length ck) ∧ Rd w B Ak (rowK L k).length (rowK L k) ∧ (rowK L k).length ≤ ck ∧ ck ≤ 9223372036854775807)

section
variable {w w' : World} {B B' n : Nat} {A : Option Addr} {L : List (List Int)}
theorem RdS.len (h : RdS w B A n L) : L.length = n := h.1
theorem RdS.at_ (h : RdS w B A n L) (hn : 0 < n) : ∃ b o, A = some ⟨b, o, none⟩ ∧ b < B ∧ ∀ k, k < n → ∃ Ak ck, w.cell? ⟨b, o + k, none⟩ = some (.slice Ak (rowK L k).length ck) ∧ Rd w B Ak (rowK L k).length (rowK L k) ∧ (rowK L k).length ≤ ck ∧ ck ≤ 9223372036854775807 := h.2 hn
theorem RdS.keep (h : RdS w B A n L) (hk : ∀ b o, b < B → w'.cell? ⟨b, o, none⟩ = w.cell? ⟨b, o, none⟩) : RdS w' B A n L :=
  ⟨h.1, fun hn => by
    obtain ⟨b, o, e, hb, hc⟩ := h.2 hn
    refine ⟨b, o, e, hb, fun k hkn => ?_⟩
    obtain ⟨Ak, ck, h1, h2, h3⟩ := hc k hkn
    exact ⟨Ak, ck, (hk _ _ hb).trans h1, h2.keep hk, h3⟩⟩
theorem RdS.more (h : RdS w B A n L) (hB : B ≤ B') : RdS w B' A n L :=
  ⟨h.1, fun hn => by
    obtain ⟨b, o, e, hb, hc⟩ := h.2 hn
    refine ⟨b, o, e, by omega, fun k hkn => ?_⟩
    obtain ⟨Ak, ck, h1, h2, h3⟩ := hc k hkn
    exact ⟨Ak, ck, h1, h2.more hB, h3⟩⟩
theorem RdS.below (h : RdS w B A n L) (hb : Below B w w') : RdS w' B A n L := h.keep fun _ _ hp => hb.cell hp
theorem RdS.drewN (h : RdS w B A n L) (k : Nat) : RdS (w.drewN k) B A n L := h.keep fun _ _ _ => rfl
theorem RdS.nil : RdS w B A 0 [] := ⟨rfl, fun h => absurd h (by omega)⟩
end

/-- Of the blocks that there were only those between B and C may have turned. -/
structure Turn (B C : Nat) (w w' : World) : Prop where
  os : w'.os = w.os
  tape : w'.tape = w.tape
  output : w'.output = w.output
  size : w.heap.size ≤ w'.heap.size
  block : ∀ k, k < w.heap.size → (k < B ∨ C ≤ k) → w'.heap[k]? = w.heap[k]?

section
variable {w w' w'' : World} {B C B' C' D n : Nat} {v : Value} {l : List Int} {A : Option Addr} {L : List (List Int)}
theorem Turn.refl (B C : Nat) (w : World) : Turn B C w w := ⟨rfl, rfl, rfl, Nat.le_refl _, fun _ _ _ => rfl⟩
theorem Turn.trans (h : Turn B C w w') (h' : Turn B C w' w'') : Turn B C w w'' :=
  ⟨h'.os.trans h.os, h'.tape.trans h.tape, h'.output.trans h.output, Nat.le_trans h.size h'.size, fun k hk hr => (h'.block k (Nat.lt_of_lt_of_le hk h.size) hr).trans (h.block k hk hr)⟩
theorem turn_of {row : Option Nat} (hg : w.grownBy w' row) (hr : ∀ k, row = some k → B ≤ k ∧ k < C) : Turn B C w w' :=
  ⟨hg.os, hg.tape, hg.output, hg.size, fun k hk h => hg.block k hk fun e => by have := hr k e.symm; omega⟩
theorem below_turn {a : World} (h : Below D a w) (ht : Turn B C w w') (hD : D ≤ B) (hs : D ≤ w.heap.size) : Below D a w' :=
  h.trans ⟨ht.os, ht.tape, ht.output, ht.size, fun k hk => ht.block k (by omega) (.inl (by omega))⟩
theorem Rd.turn (h : Rd w D A n l) (ht : Turn B C w w') (hD : D ≤ B) (hs : D ≤ w.heap.size) : Rd w' D A n l := h.below (below_turn (Below.refl D w) ht hD hs)
theorem RdS.turn (h : RdS w D A n L) (ht : Turn B C w w') (hD : D ≤ B) (hs : D ≤ w.heap.size) : RdS w' D A n L := h.below (below_turn (Below.refl D w) ht hD hs)
theorem Own2.turn (h : Own2 w B' C' v l) (ht : Turn B C w w') (hr : C' ≤ B ∨ C ≤ B') : Own2 w' B' C' v l :=
  ⟨h.1.same fun k hk => by
    have h1 := h.1.lt k hk
    have h2 := h.2 k hk
    exact ht.block k h1.2 (by omega), h.2⟩
end

/-- A slice of slices of the call's own, all its blocks between B and C, no two of them the same. -/
def OwnS (w : World) (B C : Nat) (v : Value) (L : List (List Int)) : Prop :=
  (v = .slice none 0 0 ∧ L = []) ∨
  ∃ g c cur, ∃ V : Nat → Value, v = .slice (some ⟨g, 0, none⟩) L.length c ∧ B ≤ g ∧ g < C ∧ w.heap[g]? = some (.cells cur 22 (0, 0)) ∧
    (∀ j, j < L.length → cur[j]? = some (V j) ∧ Own2 w B C (V j) (rowK L j) ∧ (V j).ownBlock ≠ some g ∧ ∃ A c, V j = .slice A (rowK L j).length c ∧ (rowK L j).length ≤ c ∧ c ≤ 9223372036854775807) ∧
    ∀ i j, i < L.length → j < L.length → i ≠ j → ∀ k, (V i).ownBlock = some k → (V j).ownBlock ≠ some k

section
variable {w w' : World} {B C B' C' D n : Nat} {v : Value} {L : List (List Int)}
theorem OwnS.slice (h : OwnS w B C v L) : ∃ A c, v = .slice A L.length c := by
  rcases h with ⟨e, rfl⟩ | ⟨g, c, cur, V, e, _⟩
  · exact ⟨none, 0, e⟩
  · exact ⟨_, c, e⟩
theorem OwnS.keep (h : OwnS w B C v L) (hk : ∀ k, B ≤ k → k < C → k < w.heap.size → w'.heap[k]? = w.heap[k]?) : OwnS w' B C v L := by
  rcases h with e | ⟨g, c, cur, V, rfl, hB, hC, hg, hr, hd⟩
  · exact .inl e
  · refine .inr ⟨g, c, cur, V, rfl, hB, hC, (hk g hB hC (Array.getElem?_eq_some_iff.1 hg).1).trans hg, fun j hj => ?_, hd⟩
    obtain ⟨h1, h2, h3⟩ := hr j hj
    exact ⟨h1, ⟨h2.1.same fun k hkk => hk k (h2.1.lt k hkk).1 (h2.2 k hkk) (h2.1.lt k hkk).2, h2.2⟩, h3⟩
theorem OwnS.below (h : OwnS w B C v L) (hb : Below D w w') (hC : C ≤ D) : OwnS w' B C v L := h.keep fun k _ hk _ => hb.block k (by omega)
theorem OwnS.turn (h : OwnS w B C v L) (ht : Turn B' C' w w') (hr : C ≤ B' ∨ C' ≤ B) : OwnS w' B C v L := h.keep fun k h1 h2 h3 => ht.block k h3 (by omega)
theorem OwnS.more (h : OwnS w B C v L) (hB : B' ≤ B) (hC : C ≤ C') : OwnS w B' C' v L := by
  rcases h with e | ⟨g, c, cur, V, rfl, hB', hC', hg, hr, hd⟩
  · exact .inl e
  · refine .inr ⟨g, c, cur, V, rfl, by omega, by omega, hg, fun j hj => ?_, hd⟩
    obtain ⟨h1, h2, h3⟩ := hr j hj
    refine ⟨h1, ⟨?_, fun k hk => Nat.lt_of_lt_of_le (h2.2 k hk) hC⟩, h3⟩
    rcases h2.1 with e | ⟨g', o, c', cur', e, hb, rest⟩
    · exact .inl e
    · exact .inr ⟨g', o, c', cur', e, by omega, rest⟩
theorem OwnS.rd {A : Option Addr} {n c : Nat} (h : OwnS w B C (.slice A n c) L) : n = L.length ∧ RdS w w.heap.size A n L := by
  rcases h with ⟨e, rfl⟩ | ⟨g, c', cur, V, e, hB, hC, hg, hr, hd⟩
  · injection e with e1 e2 e3
    subst e1; subst e2
    exact ⟨rfl, RdS.nil⟩
  · injection e with e1 e2 e3
    subst e1; subst e2
    refine ⟨rfl, rfl, fun _ => ⟨g, 0, rfl, (Array.getElem?_eq_some_iff.1 hg).1, fun k hk => ?_⟩⟩
    obtain ⟨h1, h2, h3, Ak, ck, h4, h5, h6⟩ := hr k hk
    rw [h4] at h1 h2
    refine ⟨Ak, ck, ?_, h2.rd, h5, h6⟩
    rw [Nat.zero_add, cell_of_row w g _ cur _ _ hg]
    exact h1
end
end Go.Proofs.YtjpbmhlojpaieaaDoor
