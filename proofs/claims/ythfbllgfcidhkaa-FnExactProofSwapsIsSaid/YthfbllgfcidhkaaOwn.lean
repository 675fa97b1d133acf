/- Rows of the call's own between two block numbers, through the steps of a law. -/
import Derived.Test.YthfbllgfcidhkaaList
import Derived.Maps.AppendAt
namespace Go.Proofs.Ythfbllgfcidhkaa
open Go.ChangeShapes Go.WideShapes Go.ChangeAt Go.RowKit

/-- A row of the call's own that may begin in the midst of its block: the cells from o on are the list; not frozen. -/
def OwnG (w : World) (B : Nat) (v : Value) (l : List Int) : Prop :=
  (v = .slice none 0 0 ∧ l = []) ∨
  ∃ g o c cur, v = .slice (some ⟨g, o, none⟩) l.length c ∧ B ≤ g ∧ w.heap[g]? = some (.cells cur 3 (0, 0)) ∧ ∀ j, j < l.length → cur[o + j]? = some (.int .i64 (l.getD j 0))

theorem Own.gen {w : World} {B : Nat} {v : Value} {l : List Int} (h : Own w B v l) : OwnG w B v l := by
  rcases h.2 with ⟨e, h0⟩ | ⟨g, cap, cur, hv, hg, hh, _, _, _, ht⟩
  · exact .inl ⟨e, List.eq_nil_of_length_eq_zero h0⟩
  · refine .inr ⟨g, 0, cap, cur, hv, hg, hh, fun j hj => ?_⟩
    have h1 : (cur.toList.take (l.length * 1))[j]? = (ints l)[j]? := by rw [ht]
    rw [List.getElem?_take, if_pos (by omega), ints_get l j hj] at h1
    rw [Nat.zero_add]
    simpa using h1

section
variable {w w' : World} {B C D : Nat} {v : Value} {l : List Int} {row : Option Nat}
theorem OwnG.slice (h : OwnG w B v l) : ∃ A c, v = .slice A l.length c := by
  rcases h with ⟨e, rfl⟩ | ⟨g, o, c, cur, e, _⟩
  · exact ⟨none, 0, e⟩
  · exact ⟨_, c, e⟩
theorem OwnG.lt (h : OwnG w B v l) : ∀ k, v.ownBlock = some k → B ≤ k ∧ k < w.heap.size := by
  intro k hk
  rcases h with ⟨rfl, _⟩ | ⟨g, o, c, cur, rfl, hb, hg, _⟩
  · simp [Value.ownBlock] at hk
  · simp [Value.ownBlock] at hk
    subst hk
    exact ⟨hb, (Array.getElem?_eq_some_iff.1 hg).1⟩
theorem OwnG.rd {A : Option Addr} {n c : Nat} (h : OwnG w B (.slice A n c) l) : n = l.length ∧ Rd w w.heap.size A n l := by
  rcases h with ⟨e, rfl⟩ | ⟨g, o, c', cur, e, hb, hg, hc⟩
  · injection e with e1 e2 e3
    subst e1; subst e2
    exact ⟨rfl, Rd.nil⟩
  · injection e with e1 e2 e3
    subst e1; subst e2
    refine ⟨rfl, rfl, fun _ => ⟨g, o, rfl, (Array.getElem?_eq_some_iff.1 hg).1, fun k hk => ?_⟩⟩
    rw [cell_of_row w g _ cur _ _ hg]
    exact hc k hk
theorem OwnG.same (h : OwnG w B v l) (hk : ∀ k, v.ownBlock = some k → w'.heap[k]? = w.heap[k]?) : OwnG w' B v l := by
  rcases h with e | ⟨g, o, c, cur, rfl, hb, hg, hc⟩
  · exact .inl e
  · exact .inr ⟨g, o, c, cur, rfl, hb, (hk g rfl).trans hg, hc⟩

/-- A row of the call's own whose block lies between B and C. -/
def Own2 (w : World) (B C : Nat) (v : Value) (l : List Int) : Prop := OwnG w B v l ∧ ∀ k, v.ownBlock = some k → k < C

theorem OwnG.two (h : OwnG w B v l) : Own2 w B w.heap.size v l := ⟨h, fun k hk => (h.lt k hk).2⟩
theorem Own.two (h : Own w B v l) : Own2 w B w.heap.size v l := OwnG.two h.gen
theorem Own2.below (h : Own2 w B C v l) (hb : Below D w w') (hC : C ≤ D) : Own2 w' B C v l :=
  ⟨h.1.same fun k hk => hb.block k (by have := h.2 k hk; omega), h.2⟩
theorem Own2.grown (h : Own2 w B C v l) (hg : w.grownBy w' row) (hr : ∀ k, row = some k → k < B ∨ C ≤ k) : Own2 w' B C v l := by
  refine ⟨h.1.same fun k hk => hg.block k (h.1.lt k hk).2 ?_, h.2⟩
  intro e
  have h1 := (h.1.lt k hk).1
  have h2 := h.2 k hk
  have := hr k e.symm
  omega
theorem Own2.rd {A : Option Addr} {n c : Nat} (h : Own2 w B C (.slice A n c) l) : Rd w w.heap.size A n l := h.1.rd.2
end
theorem Rd.grown {w w' : World} {B : Nat} {A : Option Addr} {n : Nat} {l : List Int} {row : Option Nat} (h : Rd w B A n l) (hg : w.grownBy w' row) (hB : B ≤ w.heap.size) (hr : ∀ k, row = some k → B ≤ k) : Rd w' B A n l :=
  h.below ((Below.refl B w).grown hg hB hr)

theorem mark_zero (A : Option Addr) (c : Nat) (q : Int) (w : World) :
    Calls Try.prog 20 #[.slice A 0 c, .int .i64 q] w fun e w' => e = .returned (.int .i64 q) ∧ w = w' := by
  go_enter Try.func20, Try.ntmps20
  go_wp2
  go_loop [1, 5] (fun r i => i = .int .i64 0 ∧ r = .int .i64 q) (fun _ _ => 0)
  case atStart => exact ⟨rfl, rfl⟩
  case round =>
    obtain ⟨rfl, rfl⟩ := hrel
    go_wp2
    go_ret
    exact ⟨rfl, rfl⟩

set_option maxHeartbeats 400000 in
theorem mark_row (g o n c B C : Nat) (l : List Int) (q : Int) (cur : Array Value) (w : World) (hl : l.length = n) (hB : B ≤ g) (hC : g < C) (hg : w.heap[g]? = some (.cells cur 3 (0, 0)))
    (hc : ∀ j, j < n → cur[o + j]? = some (.int .i64 (l.getD j 0))) (hn : n ≤ 1048576) (hq : 0 ≤ q) (hq' : q ≤ 1099511627776) :
    Calls Try.prog 20 #[.slice (some ⟨g, o, none⟩) n c, .int .i64 q] w fun e w' => e = .returned (.int .i64 (q + n)) ∧ Own2 w' B C (.slice (some ⟨g, o, none⟩) n c) (marks q n) ∧ w.grownBy w' (some g) := by
  have HL := Lib.hid hl
  go_enter Try.func20, Try.ntmps20
  go_wp2
  go_loopw [1, 5] (fun r i wr => ∃ k : Nat, k ≤ n ∧ i = .int .i64 k ∧ r = .int .i64 (q + k) ∧ Hid (∃ cs : Array Value, wr.heap[g]? = some (.cells cs 3 (0, 0)) ∧ ∀ j, j < n → cs[o + j]? = some (.int .i64 ((partMarked l q k).getD j 0))) ∧ w.grownBy wr (some g)) (fun _ i _ => n - (intOf i).toNat)
  case atStart => exact ⟨0, Nat.zero_le _, rfl, by simp, ⟨cur, hg, by simpa [partMarked, marks] using hc⟩, World.grownBy.refl _ _⟩
  case round =>
    obtain ⟨k, hk, rfl, rfl, hown, hgr⟩ := hrel
    clear hl hg hc
    obtain ⟨cs, hh, hcs⟩ := hown.out
    have HH := Lib.hid hh
    have HCS := Lib.hid hcs
    clear hh hcs hown
    by_cases hlt : k < n
    · have hcell : wr.cell? ⟨g, o + k, none⟩ = some (.int .i64 ((partMarked l q k).getD k 0)) := by
        rw [cell_of_row wr g _ cs _ _ HH.out]; exact HCS.out k hlt
      have hfr : wr.frozen? ⟨g, o + k, none⟩ = false := frozen_of_row wr g _ cs _ HH.out
      have HS : Hid (∃ cs : Array Value, (wr.setCell ⟨g, o + k, none⟩ (.int .i64 (q + k))).heap[g]? = some (.cells cs 3 (0, 0)) ∧ ∀ j, j < n → cs[o + j]? = some (.int .i64 ((partMarked l q (k + 1)).getD j 0))) := by
        refine ⟨cs.setIfInBounds (o + k) (.int .i64 (q + k)), heap_setCell_same wr g (o + k) cs _ _ HH.out, fun j hj => ?_⟩
        rw [← partMarked_step l q k (by rw [HL.out]; exact hlt), Array.getElem?_setIfInBounds]
        by_cases e : j = k
        · subst e
          have hsz : o + j < cs.size := by
            have := HCS.out j hj
            exact (Array.getElem?_eq_some_iff.1 this).1
          rw [if_pos rfl, if_pos hsz]
          simp only [List.getD_eq_getElem?_getD, List.getElem?_set, if_true]
          rw [if_pos (by rw [partMarked_length _ _ _ (by rw [HL.out]; exact hk), HL.out]; exact hj)]
          rfl
        · rw [if_neg (by omega), HCS.out j hj]
          simp [List.getD_eq_getElem?_getD, Ne.symm e]
      have HGR := Lib.hid (hgr.trans (c := wr.setCell ⟨g, o + k, none⟩ (.int .i64 (q + k))) ⟨rfl, rfl, rfl, by simp [World.setCell], fun i _ hne => Below.heap_setCell _ _ _ _ (fun e => hne (by simp [e]))⟩)
      generalize (partMarked l q k).getD k 0 = old at hcell
      go_wp2
      go_roundw
      case rel => exact ⟨k + 1, by omega, by go_num, by go_num, HS, HGR.out⟩
      case measure => simp [intOf]; omega
    · go_wp2
      go_ret
      obtain rfl : k = n := by omega
      have e : partMarked l q k = marks q k := by simp [partMarked, HL.out]
      have hcs := HCS.out
      rw [e] at hcs
      refine ⟨rfl, ⟨.inr ⟨g, o, c, cs, by rw [marks_length], hB, HH.out, by rw [marks_length]; exact hcs⟩, ?_⟩, hgr⟩
      intro i hi
      simp [Value.ownBlock] at hi
      omega

theorem mark_own (v : Value) (B C : Nat) (l : List Int) (q : Int) (w : World) (h : Own2 w B C v l) (hn : l.length ≤ 1048576) (hq : 0 ≤ q) (hq' : q ≤ 1099511627776) :
    Calls Try.prog 20 #[v, .int .i64 q] w fun e w' => e = .returned (.int .i64 (q + l.length)) ∧ Own2 w' B C v (marks q l.length) ∧ w.grownBy w' v.ownBlock := by
  rcases h.1 with ⟨rfl, rfl⟩ | ⟨g, o, c, cur, rfl, hB, hg, hc⟩
  · refine (mark_zero none 0 q w).mono ?_
    rintro e w' ⟨rfl, rfl⟩
    exact ⟨by simp, h, World.grownBy.refl _ _⟩
  · exact mark_row g o l.length c B C l q cur w rfl hB (h.2 g rfl) hg hc hn hq hq'

theorem held_own (A : Option Addr) (n c B C : Nat) (q : Int) (m : Nat) (w : World) (h : Own2 w B C (.slice A n c) (marks q m)) (hn : m ≤ 1048576) (hq : 0 ≤ q) (hq' : q ≤ 1099511627776) :
    Calls Try.prog 51 #[.slice A n c, .int .i64 q] w fun e w' => e = .returned (.int .i64 (q + m)) ∧ w = w' := by
  have h1 := h.1.rd
  rw [marks_length] at h1
  obtain ⟨rfl, hr⟩ := h1
  exact heldIntS_any A n c w.heap.size q w hr hn hq hq'

theorem eq_own (A A' : Option Addr) (n n' c c' B C B' C' : Nat) (l : List Int) (w : World) (h : Own2 w B C (.slice A n c) l) (h' : Own2 w B' C' (.slice A' n' c') l) (hn : l.length ≤ 1048576) :
    Calls Try.prog 17 #[.slice A n c, .slice A' n' c'] w fun e w' => e = .returned (.bool true) ∧ Below w.heap.size w w' := by
  have h1 := h.1.rd
  have h2 := h'.1.rd
  refine (eqIntS_any A A' n n' c c' l l w.heap.size w h1.2 h2.2 (by omega) (by omega)).mono ?_
  rintro e w' ⟨rfl, hb⟩
  exact ⟨by simp [same], hb⟩
end Go.Proofs.Ythfbllgfcidhkaa
