/- Terms in memory: the program's are values behind an interface, the model's are structs that hold a slice. -/
import Derived.Test.YtehadbpbkenccaaGreatDoorTmA
import Derived.Test.YtehadbpbkenccaaGreatDoorMA
import Derived.Deep.AppendLies
import Derived.Maps.OwnRows
namespace Go.Proofs.YtehadbpbkenccaaGreatDoor
open Go.ChangeShapes Go.WideShapes Go.ChangeAt Go.RowKit

/-- Blocks between two numbers. -/
def Btw (a b : Nat) (k : Nat) : Prop := a ≤ k ∧ k < b

/-! ### The program's -/
mutual
def TR (w : World) (D : Nat → Prop) : Tm → Value → Prop
  | .L c, v => v = .iface 154 (.int .u8 (c.toNat : Int))
  | .S t, v => ∃ u, v = .iface 74 (.agg #[u]) ∧ TR w D t u
  | .B ts, v => ∃ g c cur, v = .iface 76 (.slice (some ⟨g, 0, none⟩) ts.length c) ∧ ts.length ≤ c ∧ c ≤ maxLen ∧ D g ∧ w.heap[g]? = some (.cells cur 29 (0, 0)) ∧ TRs w D ts (cur.toList.take ts.length)
def TRs (w : World) (D : Nat → Prop) : List Tm → List Value → Prop
  | [], vs => vs = []
  | t :: ts, vs => ∃ u us, vs = u :: us ∧ TR w D t u ∧ TRs w D ts us
end
mutual
theorem TR.keep {w w' : World} {D D' : Nat → Prop} (hw : ∀ k, D k → w'.heap[k]? = w.heap[k]?) (hD : ∀ k, D k → D' k) : ∀ (t : Tm) (v : Value), TR w D t v → TR w' D' t v
  | .L c, v, h => by rw [TR] at h ⊢; exact h
  | .S t, v, h => by
    rw [TR] at h ⊢
    obtain ⟨u, e, h⟩ := h
    exact ⟨u, e, TR.keep hw hD t u h⟩
  | .B ts, v, h => by
    rw [TR] at h ⊢
    obtain ⟨g, c, cur, e, h1, h1', h2, h3, h4⟩ := h
    exact ⟨g, c, cur, e, h1, h1', hD g h2, (hw g h2).trans h3, TRs.keep hw hD ts _ h4⟩
theorem TRs.keep {w w' : World} {D D' : Nat → Prop} (hw : ∀ k, D k → w'.heap[k]? = w.heap[k]?) (hD : ∀ k, D k → D' k) : ∀ (ts : List Tm) (vs : List Value), TRs w D ts vs → TRs w' D' ts vs
  | [], vs, h => by rw [TRs] at h ⊢; exact h
  | t :: ts, vs, h => by
    rw [TRs] at h ⊢
    obtain ⟨u, us, e, h1, h2⟩ := h
    exact ⟨u, us, e, TR.keep hw hD t u h1, TRs.keep hw hD ts us h2⟩
end
section
variable {w w' : World} {D D' : Nat → Prop} {t : Tm} {v : Value} {ts : List Tm} {vs : List Value}
theorem TRs.nil : TRs w D [] [] := by rw [TRs]
theorem TRs.snoc : ∀ {ts : List Tm} {vs : List Value}, TRs w D ts vs → TR w D t v → TRs w D (ts ++ [t]) (vs ++ [v])
  | [], vs, h, hv => by
    rw [TRs] at h
    subst h
    rw [List.nil_append, List.nil_append, TRs]
    exact ⟨v, [], rfl, hv, TRs.nil⟩
  | a :: ts, vs, h, hv => by
    rw [TRs] at h
    obtain ⟨u, us, rfl, h1, h2⟩ := h
    rw [List.cons_append, List.cons_append, TRs]
    exact ⟨u, us ++ [v], rfl, h1, TRs.snoc h2 hv⟩
theorem TRs.len : ∀ {ts : List Tm} {vs : List Value}, TRs w D ts vs → vs.length = ts.length
  | [], vs, h => by rw [TRs] at h; simp [h]
  | a :: ts, vs, h => by
    rw [TRs] at h
    obtain ⟨u, us, rfl, _, h2⟩ := h
    simp [TRs.len h2]
theorem TRs.get : ∀ {ts : List Tm} {vs : List Value}, TRs w D ts vs → ∀ k (hk : k < ts.length), ∃ u, vs[k]? = some u ∧ TR w D ts[k] u
  | [], vs, h, k, hk => absurd hk (by simp)
  | a :: ts, vs, h, k, hk => by
    rw [TRs] at h
    obtain ⟨u, us, rfl, h1, h2⟩ := h
    cases k with
    | zero => exact ⟨u, by simp, h1⟩
    | succ k => simpa using TRs.get h2 k (by simpa using hk)
theorem TR.one (h : TR w D t v) : v.oneCell' = true := by
  cases t with
  | L c => rw [TR] at h; subst h; rfl
  | S t => rw [TR] at h; obtain ⟨u, rfl, _⟩ := h; rfl
  | B ts => rw [TR] at h; obtain ⟨g, c, cur, rfl, _⟩ := h; rfl
theorem TR.iface (h : TR w D t v) : ∃ T x, v = .iface T x := by
  cases t with
  | L c => rw [TR] at h; exact ⟨_, _, h⟩
  | S t => rw [TR] at h; obtain ⟨u, e, _⟩ := h; exact ⟨_, _, e⟩
  | B ts => rw [TR] at h; obtain ⟨g, c, cur, e, _⟩ := h; exact ⟨_, _, e⟩
/-- The terms of brackets, one after another. -/
theorem TR.kid (h : TR w D (.B ts) v) : ∃ g c, v = .iface 76 (.slice (some ⟨g, 0, none⟩) ts.length c) ∧ ts.length ≤ c ∧ c ≤ maxLen ∧ g < w.heap.size ∧
    ∀ k (hk : k < ts.length), ∃ u, w.cell? ⟨g, k, none⟩ = some u ∧ TR w D ts[k] u := by
  rw [TR] at h
  obtain ⟨g, c, cur, e, h1, h1', _, h3, h4⟩ := h
  refine ⟨g, c, e, h1, h1', (Array.getElem?_eq_some_iff.1 h3).1, fun k hk => ?_⟩
  obtain ⟨u, hu, hr⟩ := h4.get k hk
  refine ⟨u, ?_, hr⟩
  rw [cell_of_row w g _ cur _ _ h3]
  rw [List.getElem?_take, if_pos hk] at hu
  simpa using hu
end

/-! ### The model's -/
def Tm.sig : Tm → UInt8
  | .L c => c
  | .S _ => 45
  | .B _ => 40
def Tm.kids : Tm → List Tm
  | .L _ => []
  | .S t => [t]
  | .B ts => ts
mutual
def TS (w : World) (D : Nat → Prop) : Tm → Value → Value → Prop
  | .L c, a, b => a = .int .u8 (c.toNat : Int) ∧ ∃ A d, b = .slice A 0 d
  | .S t, a, b => a = .int .u8 45 ∧ ∃ g d cur x y, b = .slice (some ⟨g, 0, none⟩) 1 d ∧ 1 ≤ d ∧ D g ∧ w.heap[g]? = some (.cells cur 37 (0, 0)) ∧ cur.toList.take 2 = [x, y] ∧ TS w D t x y
  | .B ts, a, b => a = .int .u8 40 ∧ ∃ g d cur, b = .slice (some ⟨g, 0, none⟩) ts.length d ∧ ts.length ≤ d ∧ D g ∧ w.heap[g]? = some (.cells cur 37 (0, 0)) ∧ TSs w D ts (cur.toList.take (ts.length * 2))
def TSs (w : World) (D : Nat → Prop) : List Tm → List Value → Prop
  | [], vs => vs = []
  | t :: ts, vs => ∃ x y us, vs = x :: y :: us ∧ TS w D t x y ∧ TSs w D ts us
end
mutual
theorem TS.keep {w w' : World} {D D' : Nat → Prop} (hw : ∀ k, D k → w'.heap[k]? = w.heap[k]?) (hD : ∀ k, D k → D' k) : ∀ (t : Tm) (a b : Value), TS w D t a b → TS w' D' t a b
  | .L c, a, b, h => by rw [TS] at h ⊢; exact h
  | .S t, a, b, h => by
    rw [TS] at h ⊢
    obtain ⟨e, g, d, cur, x, y, e1, h1, h2, h3, h4, h5⟩ := h
    exact ⟨e, g, d, cur, x, y, e1, h1, hD g h2, (hw g h2).trans h3, h4, TS.keep hw hD t x y h5⟩
  | .B ts, a, b, h => by
    rw [TS] at h ⊢
    obtain ⟨e, g, d, cur, e1, h1, h2, h3, h4⟩ := h
    exact ⟨e, g, d, cur, e1, h1, hD g h2, (hw g h2).trans h3, TSs.keep hw hD ts _ h4⟩
theorem TSs.keep {w w' : World} {D D' : Nat → Prop} (hw : ∀ k, D k → w'.heap[k]? = w.heap[k]?) (hD : ∀ k, D k → D' k) : ∀ (ts : List Tm) (vs : List Value), TSs w D ts vs → TSs w' D' ts vs
  | [], vs, h => by rw [TSs] at h ⊢; exact h
  | t :: ts, vs, h => by
    rw [TSs] at h ⊢
    obtain ⟨x, y, us, e, h1, h2⟩ := h
    exact ⟨x, y, us, e, TS.keep hw hD t x y h1, TSs.keep hw hD ts us h2⟩
end
section
variable {w w' : World} {D D' : Nat → Prop} {t : Tm} {a b : Value} {ts : List Tm} {vs : List Value}
theorem TSs.nil : TSs w D [] [] := by rw [TSs]
theorem TSs.snoc : ∀ {ts : List Tm} {vs : List Value}, TSs w D ts vs → TS w D t a b → TSs w D (ts ++ [t]) (vs ++ [a, b])
  | [], vs, h, hv => by
    rw [TSs] at h
    subst h
    rw [List.nil_append, List.nil_append, TSs]
    exact ⟨a, b, [], rfl, hv, TSs.nil⟩
  | c :: ts, vs, h, hv => by
    rw [TSs] at h
    obtain ⟨x, y, us, rfl, h1, h2⟩ := h
    rw [List.cons_append, List.cons_append, List.cons_append, TSs]
    exact ⟨x, y, us ++ [a, b], rfl, h1, TSs.snoc h2 hv⟩
theorem TSs.len : ∀ {ts : List Tm} {vs : List Value}, TSs w D ts vs → vs.length = ts.length * 2
  | [], vs, h => by rw [TSs] at h; simp [h]
  | c :: ts, vs, h => by
    rw [TSs] at h
    obtain ⟨x, y, us, rfl, _, h2⟩ := h
    simp [TSs.len h2]; omega
theorem TSs.get : ∀ {ts : List Tm} {vs : List Value}, TSs w D ts vs → ∀ k (hk : k < ts.length), ∃ x y, vs[k * 2]? = some x ∧ vs[k * 2 + 1]? = some y ∧ TS w D ts[k] x y
  | [], vs, h, k, hk => absurd hk (by simp)
  | c :: ts, vs, h, k, hk => by
    rw [TSs] at h
    obtain ⟨x, y, us, rfl, h1, h2⟩ := h
    cases k with
    | zero => exact ⟨x, y, by simp, by simp, h1⟩
    | succ k =>
      obtain ⟨x', y', e1, e2, h3⟩ := TSs.get h2 k (by simpa using hk)
      exact ⟨x', y', by rw [show (k + 1) * 2 = k * 2 + 1 + 1 by omega]; simpa using e1, by rw [show (k + 1) * 2 + 1 = k * 2 + 1 + 1 + 1 by omega]; simpa using e2, by simpa using h3⟩
theorem TS.form (h : TS w D t a b) : a = .int .u8 (t.sig.toNat : Int) ∧ ∃ A d, b = .slice A t.kids.length d := by
  cases t with
  | L c => rw [TS] at h; obtain ⟨rfl, A, d, rfl⟩ := h; exact ⟨rfl, A, d, rfl⟩
  | S t => rw [TS] at h; obtain ⟨rfl, g, d, cur, x, y, rfl, _⟩ := h; exact ⟨rfl, _, d, rfl⟩
  | B ts => rw [TS] at h; obtain ⟨rfl, g, d, cur, rfl, _⟩ := h; exact ⟨rfl, _, d, rfl⟩
/-- The terms in a term. -/
theorem TS.kid (h : TS w D t a b) (hp : 0 < t.kids.length) : ∃ g d, b = .slice (some ⟨g, 0, none⟩) t.kids.length d ∧ g < w.heap.size ∧
    ∀ k (hk : k < t.kids.length), ∃ x y, w.cell? ⟨g, k * 2, none⟩ = some x ∧ w.cell? ⟨g, k * 2 + 1, none⟩ = some y ∧ TS w D t.kids[k] x y := by
  cases t with
  | L c => exact absurd hp (by simp [Tm.kids])
  | S t =>
    rw [TS] at h
    obtain ⟨_, g, d, cur, x, y, e, h1, _, h3, h4, h5⟩ := h
    refine ⟨g, d, e, (Array.getElem?_eq_some_iff.1 h3).1, fun k hk => ?_⟩
    obtain rfl : k = 0 := by simp [Tm.kids] at hk; omega
    have e0 : cur.toList[0]? = some x := by
      have : (cur.toList.take 2)[0]? = some x := by rw [h4]; rfl
      rw [List.getElem?_take] at this; simpa using this
    have e1 : cur.toList[1]? = some y := by
      have : (cur.toList.take 2)[1]? = some y := by rw [h4]; rfl
      rw [List.getElem?_take] at this; simpa using this
    exact ⟨x, y, by rw [cell_of_row w g _ cur _ _ h3]; simpa using e0, by rw [cell_of_row w g _ cur _ _ h3]; simpa using e1, h5⟩
  | B ts =>
    rw [TS] at h
    obtain ⟨_, g, d, cur, e, h1, _, h3, h4⟩ := h
    refine ⟨g, d, e, (Array.getElem?_eq_some_iff.1 h3).1, fun k hk => ?_⟩
    have hk' : k < ts.length := hk
    obtain ⟨x, y, e0, e1, hr⟩ := h4.get k hk'
    rw [List.getElem?_take, if_pos (by omega)] at e0 e1
    exact ⟨x, y, by rw [cell_of_row w g _ cur _ _ h3]; simpa using e0, by rw [cell_of_row w g _ cur _ _ h3]; simpa using e1, hr⟩
end
end Go.Proofs.YtehadbpbkenccaaGreatDoor
