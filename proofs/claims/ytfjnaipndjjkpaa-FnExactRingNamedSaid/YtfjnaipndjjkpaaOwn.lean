/- Rows of the call's own between two block numbers, through the steps of a law. -/
import Derived.Test.YtfjnaipndjjkpaaList
namespace Go.Proofs.Ytfjnaipndjjkpaa
open Go.ChangeShapes Go.WideShapes Go.ChangeAt Go.RowKit

/-- A row of the call's own whose block lies between B and C. -/
def Own2 (w : World) (B C : Nat) (v : Value) (l : List Int) : Prop := Own w B v l ∧ ∀ k, v.ownBlock = some k → k < C

theorem Own.two {w : World} {B : Nat} {v : Value} {l : List Int} (h : Own w B v l) : Own2 w B w.heap.size v l := ⟨h, fun k hk => (h.lt k hk).2⟩
theorem Own2.below {w w' : World} {B C D : Nat} {v : Value} {l : List Int} (h : Own2 w B C v l) (hb : Below D w w') (hC : C ≤ D) : Own2 w' B C v l := by
  refine ⟨⟨h.1.1, ?_⟩, h.2⟩
  rcases h.1.2 with e | ⟨g, cap, cur, hv, hg, hh, r⟩
  · exact .inl e
  · refine .inr ⟨g, cap, cur, hv, hg, ?_, r⟩
    have := h.2 g (by rw [hv]; rfl)
    rw [hb.block g (by omega)]
    exact hh
theorem Own2.grown {w w' : World} {B C : Nat} {v : Value} {l : List Int} {row : Option Nat} (h : Own2 w B C v l) (hg : w.grownBy w' row) (hr : ∀ k, row = some k → k < B ∨ C ≤ k) : Own2 w' B C v l := by
  refine ⟨h.1.kept hg ?_, h.2⟩
  rcases hv : v.ownBlock with _ | k
  · exact .inl rfl
  · right
    intro e
    have h1 := (h.1.lt k hv).1
    have h2 := h.2 k hv
    have := hr k e.symm
    omega
theorem Own2.rd {w : World} {B C : Nat} {A : Option Addr} {n c : Nat} {l : List Int} (h : Own2 w B C (.slice A n c) l) : Rd w w.heap.size A n l := h.1.rd.2
theorem Rd.grown {w w' : World} {B : Nat} {A : Option Addr} {n : Nat} {l : List Int} {row : Option Nat} (h : Rd w B A n l) (hg : w.grownBy w' row) (hB : B ≤ w.heap.size) (hr : ∀ k, row = some k → B ≤ k) : Rd w' B A n l :=
  h.below ((Below.refl B w).grown hg hB hr)

theorem mark_zero (A : Option Addr) (c : Nat) (q : Int) (w : World) :
    Calls Try.prog 21 #[.slice A 0 c, .int .i64 q] w fun e w' => e = .returned (.int .i64 q) ∧ w = w' := by
  go_enter Try.func21, Try.ntmps21
  go_wp2
  go_loop [1, 5] (fun r i => i = .int .i64 0 ∧ r = .int .i64 q) (fun _ _ => 0)
  case atStart => exact ⟨rfl, rfl⟩
  case round =>
    obtain ⟨rfl, rfl⟩ := hrel
    go_wp2
    go_ret
    exact ⟨rfl, rfl⟩

theorem mark_own (v : Value) (B C : Nat) (l : List Int) (q : Int) (w : World) (h : Own2 w B C v l) (hn : l.length ≤ 1048576) (hq : 0 ≤ q) (hq' : q ≤ 1099511627776) :
    Calls Try.prog 21 #[v, .int .i64 q] w fun e w' => e = .returned (.int .i64 (q + l.length)) ∧ Own2 w' B C v (marks q l.length) ∧ w.grownBy w' v.ownBlock := by
  rcases h.1.2 with ⟨rfl, h0⟩ | ⟨g, cap, cur, rfl, _⟩
  · rw [h0]
    refine (mark_zero none 0 q w).mono ?_
    rintro e w' ⟨rfl, rfl⟩
    obtain rfl : l = [] := List.eq_nil_of_length_eq_zero h0
    exact ⟨by simp, h, World.grownBy.refl _ _⟩
  · refine (markIntS_any g l.length cap B l q w rfl h.1 hn hq hq').mono ?_
    rintro e w' ⟨rfl, ho, hg⟩
    refine ⟨rfl, ⟨?_, h.2⟩, hg⟩
    unfold Own
    rw [marks_length]
    exact ho

theorem held_own (A : Option Addr) (n c B C : Nat) (q : Int) (m : Nat) (w : World) (h : Own2 w B C (.slice A n c) (marks q m)) (hn : m ≤ 1048576) (hq : 0 ≤ q) (hq' : q ≤ 1099511627776) :
    Calls Try.prog 22 #[.slice A n c, .int .i64 q] w fun e w' => e = .returned (.int .i64 (q + m)) ∧ w = w' := by
  have h1 := h.1.rd
  rw [marks_length] at h1
  obtain ⟨rfl, hr⟩ := h1
  exact heldIntS_any A n c w.heap.size q w hr hn hq hq'

theorem eq_own (A A' : Option Addr) (n n' c c' B C B' C' : Nat) (l : List Int) (w : World) (h : Own2 w B C (.slice A n c) l) (h' : Own2 w B' C' (.slice A' n' c') l) (hn : l.length ≤ 1048576) :
    Calls Try.prog 18 #[.slice A n c, .slice A' n' c'] w fun e w' => e = .returned (.bool true) ∧ Below w.heap.size w w' := by
  have h1 := h.1.rd
  have h2 := h'.1.rd
  refine (eqIntS_any A A' n n' c c' l l w.heap.size w h1.2 h2.2 (by omega) (by omega)).mono ?_
  rintro e w' ⟨rfl, hb⟩
  exact ⟨by simp [same], hb⟩
end Go.Proofs.Ytfjnaipndjjkpaa
