/- Terms: what they are, how a text is read as one, and what they tell. Plain maths. -/
namespace Go.Proofs.YtehadbpbkenccaaGreatDoor

/-- A letter, a sign with its term, brackets with theirs. -/
inductive Tm where
  | L (c : UInt8)
  | S (t : Tm)
  | B (ts : List Tm)

mutual
def Tm.row : Tm → List UInt8
  | .L c => [c]
  | .S t => t.row.reverse
  | .B ts => Tm.rows ts
def Tm.rows : List Tm → List UInt8
  | [] => []
  | t :: ts => t.row ++ Tm.rows ts
end
mutual
def Tm.dep : Tm → Nat
  | .L _ => 0
  | .S t => t.dep
  | .B ts => Tm.deps ts + 1
def Tm.deps : List Tm → Nat
  | [] => 0
  | t :: ts => max t.dep (Tm.deps ts)
end
mutual
def Tm.tidy : Bool → Tm → List UInt8
  | _, .L c => [c]
  | b, .S t => t.tidy (!b)
  | b, .B ts => 40 :: (Tm.tidys b ts ++ [41])
def Tm.tidys : Bool → List Tm → List UInt8
  | _, [] => []
  | b, t :: ts => if b then Tm.tidys b ts ++ t.tidy b else t.tidy b ++ Tm.tidys b ts
end
-- how long its text is
mutual
def Tm.len : Tm → Nat
  | .L _ => 1
  | .S t => t.len + 1
  | .B ts => Tm.lens ts + 2
def Tm.lens : List Tm → Nat
  | [] => 0
  | t :: ts => t.len + Tm.lens ts
end
def isL (c : UInt8) : Bool := decide (97 ≤ c.toNat ∧ c.toNat ≤ 103)
mutual
def Tm.ok : Tm → Prop
  | .L c => isL c = true
  | .S t => t.ok
  | .B ts => 2 ≤ ts.length ∧ Tm.oks ts
def Tm.oks : List Tm → Prop
  | [] => True
  | t :: ts => t.ok ∧ Tm.oks ts
end

theorem oks_mem : ∀ {ts : List Tm}, Tm.oks ts → ∀ t ∈ ts, t.ok
  | [], _, t, h => by simp at h
  | a :: ts, hk, t, h => by
    rw [Tm.oks] at hk
    rcases List.mem_cons.1 h with rfl | h
    · exact hk.1
    · exact oks_mem hk.2 t h
theorem oks_snoc : ∀ {ts : List Tm} {t : Tm}, Tm.oks ts → t.ok → Tm.oks (ts ++ [t])
  | [], t, _, h => by simp [Tm.oks, h]
  | a :: ts, t, hk, h => by rw [Tm.oks] at hk; rw [List.cons_append, Tm.oks]; exact ⟨hk.1, oks_snoc hk.2 h⟩
theorem rows_snoc (ts : List Tm) (t : Tm) : Tm.rows (ts ++ [t]) = Tm.rows ts ++ t.row := by
  induction ts with
  | nil => simp [Tm.rows]
  | cons a ts ih => simp [Tm.rows, ih]
theorem lens_snoc (ts : List Tm) (t : Tm) : Tm.lens (ts ++ [t]) = Tm.lens ts + t.len := by
  induction ts with
  | nil => simp [Tm.lens]
  | cons a ts ih => simp [Tm.lens, ih]; omega
theorem deps_snoc (ts : List Tm) (t : Tm) : Tm.deps (ts ++ [t]) = max (Tm.deps ts) t.dep := by
  induction ts with
  | nil => simp [Tm.deps]
  | cons a ts ih => simp [Tm.deps, ih, Nat.max_assoc]
theorem tidys_snoc (b : Bool) (ts : List Tm) (t : Tm) : Tm.tidys b (ts ++ [t]) = if b then t.tidy b ++ Tm.tidys b ts else Tm.tidys b ts ++ t.tidy b := by
  induction ts with
  | nil => simp [Tm.tidys]
  | cons a ts ih => cases b <;> simp [Tm.tidys, ih]
theorem tidys_flat (b : Bool) (ts : List Tm) : Tm.tidys b ts = (if b then (ts.map (Tm.tidy b)).reverse else ts.map (Tm.tidy b)).flatten := by
  induction ts with
  | nil => simp [Tm.tidys]
  | cons a ts ih => cases b <;> simp [Tm.tidys, ih]
theorem rows_flat (ts : List Tm) : Tm.rows ts = (ts.map Tm.row).flatten := by
  induction ts with
  | nil => simp [Tm.rows]
  | cons a ts ih => simp [Tm.rows, ih]

mutual
theorem trow_le : ∀ t : Tm, t.row.length ≤ t.len
  | .L c => by simp [Tm.row, Tm.len]
  | .S t => by have := trow_le t; simp [Tm.row, Tm.len]; omega
  | .B ts => by have := trows_le ts; simp [Tm.row, Tm.len]; omega
theorem trows_le : ∀ ts : List Tm, (Tm.rows ts).length ≤ Tm.lens ts
  | [] => by simp [Tm.rows, Tm.lens]
  | t :: ts => by have := trow_le t; have := trows_le ts; simp [Tm.rows, Tm.lens]; omega
end
mutual
theorem tidy_le : ∀ (t : Tm) (b : Bool), (t.tidy b).length ≤ t.len
  | .L c, b => by simp [Tm.tidy, Tm.len]
  | .S t, b => by have := tidy_le t (!b); simp [Tm.tidy, Tm.len]; omega
  | .B ts, b => by have := tidys_le ts b; simp [Tm.tidy, Tm.len]; omega
theorem tidys_le : ∀ (ts : List Tm) (b : Bool), (Tm.tidys b ts).length ≤ Tm.lens ts
  | [], b => by simp [Tm.tidys, Tm.lens]
  | t :: ts, b => by have := tidy_le t b; have := tidys_le ts b; cases b <;> simp [Tm.tidys, Tm.lens] <;> omega
end
mutual
theorem dep_le : ∀ t : Tm, t.dep ≤ t.len
  | .L c => by simp [Tm.dep, Tm.len]
  | .S t => by have := dep_le t; simp [Tm.dep, Tm.len]; omega
  | .B ts => by have := deps_le ts; simp [Tm.dep, Tm.len]; omega
theorem deps_le : ∀ ts : List Tm, Tm.deps ts ≤ Tm.lens ts
  | [] => by simp [Tm.deps, Tm.lens]
  | t :: ts => by have := dep_le t; have := deps_le ts; simp [Tm.deps, Tm.lens]; omega
end
mutual
theorem row_L : ∀ t : Tm, t.ok → ∀ c ∈ t.row, isL c = true
  | .L c, h, d, hd => by rw [Tm.ok] at h; simp [Tm.row] at hd; rw [hd]; exact h
  | .S t, h, d, hd => by rw [Tm.ok] at h; exact row_L t h d (by simpa [Tm.row] using hd)
  | .B ts, h, d, hd => by rw [Tm.ok] at h; exact rows_L ts h.2 d (by simpa [Tm.row] using hd)
theorem rows_L : ∀ ts : List Tm, Tm.oks ts → ∀ c ∈ Tm.rows ts, isL c = true
  | [], _, d, hd => by simp [Tm.rows] at hd
  | t :: ts, h, d, hd => by
    rw [Tm.oks] at h
    rw [Tm.rows] at hd
    rcases List.mem_append.1 hd with hd | hd
    · exact row_L t h.1 d hd
    · exact rows_L ts h.2 d hd
end
mutual
theorem row_pos : ∀ t : Tm, t.ok → 1 ≤ t.row.length
  | .L c, _ => by simp [Tm.row]
  | .S t, h => by rw [Tm.ok] at h; have := row_pos t h; simpa [Tm.row] using this
  | .B ts, h => by rw [Tm.ok] at h; have := rows_pos ts h.2; simp [Tm.row]; omega
theorem rows_pos : ∀ ts : List Tm, Tm.oks ts → ts.length ≤ (Tm.rows ts).length
  | [], _ => by simp
  | t :: ts, h => by rw [Tm.oks] at h; have := row_pos t h.1; have := rows_pos ts h.2; simp [Tm.rows]; omega
end
theorem len_pos (t : Tm) : 1 ≤ t.len := by cases t <;> simp [Tm.len]
theorem lens_len : ∀ ts : List Tm, ts.length ≤ Tm.lens ts
  | [] => by simp [Tm.lens]
  | t :: ts => by have := len_pos t; have := lens_len ts; simp [Tm.lens]; omega
theorem len_mem : ∀ {ts : List Tm} {t : Tm}, t ∈ ts → t.len ≤ Tm.lens ts
  | [], t, h => by simp at h
  | a :: ts, t, h => by
    rw [Tm.lens]
    rcases List.mem_cons.1 h with rfl | h
    · omega
    · have := len_mem h; omega
theorem lens_take : ∀ (ts : List Tm) (k : Nat), Tm.lens (ts.take k) ≤ Tm.lens ts
  | [], k => by simp [Tm.lens]
  | t :: ts, 0 => by simp [Tm.lens]
  | t :: ts, k + 1 => by have := lens_take ts k; simp [Tm.lens]; omega

/-! ### How a text is read -/
mutual
def pT : List UInt8 → Option (Tm × Nat)
  | [] => none
  | c :: l =>
    if isL c then some (.L c, 1)
    else if c = 45 then (pT l).map fun r => (.S r.1, r.2 + 1)
    else if c = 40 then (pB l []).map fun r => (.B r.1, r.2 + 1)
    else none
termination_by l => (l.length, 0)
def pB : List UInt8 → List Tm → Option (List Tm × Nat)
  | [], _ => none
  | c :: l, acc =>
    if c = 41 then (if 2 ≤ acc.length then some (acc, 1) else none)
    else match pT (c :: l) with
      | none => none
      | some (t, n) => (pB (l.drop (n - 1)) (acc ++ [t])).map fun r => (r.1, r.2 + n)
termination_by l => (l.length, 1)
end
theorem pT_nil : pT [] = none := by rw [pT]
theorem pT_let {c : UInt8} (l : List UInt8) (h : isL c = true) : pT (c :: l) = some (.L c, 1) := by rw [pT, if_pos h]
theorem pT_sign (l : List UInt8) : pT (45 :: l) = (pT l).map fun r => (.S r.1, r.2 + 1) := by rw [pT, if_neg (by decide), if_pos rfl]
theorem pT_open (l : List UInt8) : pT (40 :: l) = (pB l []).map fun r => (.B r.1, r.2 + 1) := by rw [pT, if_neg (by decide), if_neg (by decide), if_pos rfl]
theorem pT_bad {c : UInt8} (l : List UInt8) (h : isL c = false) (h1 : c ≠ 45) (h2 : c ≠ 40) : pT (c :: l) = none := by rw [pT, if_neg (by simp [h]), if_neg h1, if_neg h2]
theorem pB_nil (acc : List Tm) : pB [] acc = none := by rw [pB]
theorem pB_close (l : List UInt8) (acc : List Tm) : pB (41 :: l) acc = if 2 ≤ acc.length then some (acc, 1) else none := by rw [pB, if_pos rfl]
theorem pB_none {c : UInt8} (l : List UInt8) (acc : List Tm) (h : c ≠ 41) (hp : pT (c :: l) = none) : pB (c :: l) acc = none := by rw [pB, if_neg h, hp]
theorem pB_some {c : UInt8} (l : List UInt8) (acc : List Tm) (h : c ≠ 41) {t : Tm} {n : Nat} (hp : pT (c :: l) = some (t, n)) : pB (c :: l) acc = (pB (l.drop (n - 1)) (acc ++ [t])).map fun r => (r.1, r.2 + n) := by rw [pB, if_neg h, hp]

theorem p_ok (m : Nat) : (∀ l t n, l.length ≤ m → pT l = some (t, n) → t.ok ∧ t.len = n ∧ n ≤ l.length) ∧
    (∀ l acc ts n, l.length ≤ m → Tm.oks acc → pB l acc = some (ts, n) → 2 ≤ ts.length ∧ Tm.oks ts ∧ Tm.lens ts + 1 = Tm.lens acc + n ∧ n ≤ l.length ∧ 1 ≤ n) := by
  induction m with
  | zero =>
    refine ⟨fun l t n hl h => ?_, fun l acc ts n hl _ h => ?_⟩
    · obtain rfl : l = [] := List.length_eq_zero_iff.1 (by omega)
      rw [pT_nil] at h; cases h
    · obtain rfl : l = [] := List.length_eq_zero_iff.1 (by omega)
      rw [pB_nil] at h; cases h
  | succ m ih =>
    have hT : ∀ l t n, l.length ≤ m + 1 → pT l = some (t, n) → t.ok ∧ t.len = n ∧ n ≤ l.length := by
      intro l t n hl h
      match l with
      | [] => rw [pT_nil] at h; cases h
      | c :: l =>
        rw [pT] at h
        by_cases h1 : isL c = true
        · rw [if_pos h1] at h
          obtain ⟨rfl, rfl⟩ := Prod.mk.inj (Option.some.inj h)
          exact ⟨by rw [Tm.ok]; exact h1, by rw [Tm.len], by simp⟩
        · rw [if_neg h1] at h
          by_cases h2 : c = 45
          · rw [if_pos h2] at h
            obtain ⟨⟨t', n'⟩, hp, he⟩ := Option.map_eq_some_iff.1 h
            obtain ⟨rfl, rfl⟩ : Tm.S t' = t ∧ n' + 1 = n := Prod.mk.inj he
            obtain ⟨a, b, c⟩ := ih.1 l t' n' (by simpa using hl) hp
            exact ⟨by rw [Tm.ok]; exact a, by rw [Tm.len]; omega, by simp; omega⟩
          · rw [if_neg h2] at h
            by_cases h3 : c = 40
            · rw [if_pos h3] at h
              obtain ⟨⟨ts', n'⟩, hp, he⟩ := Option.map_eq_some_iff.1 h
              obtain ⟨rfl, rfl⟩ : Tm.B ts' = t ∧ n' + 1 = n := Prod.mk.inj he
              obtain ⟨a, b, c, d, e⟩ := ih.2 l [] ts' n' (by simpa using hl) (by simp [Tm.oks]) hp
              refine ⟨by rw [Tm.ok]; exact ⟨a, b⟩, ?_, by simp; omega⟩
              rw [Tm.len]
              simp only [Tm.lens] at c
              show _ = n' + 1
              omega
            · rw [if_neg h3] at h; cases h
    refine ⟨hT, fun l acc ts n hl ha h => ?_⟩
    match l with
    | [] => rw [pB_nil] at h; cases h
    | c :: l =>
      rw [pB] at h
      by_cases h1 : c = 41
      · rw [if_pos h1] at h
        by_cases h2 : 2 ≤ acc.length
        · rw [if_pos h2] at h
          obtain ⟨rfl, rfl⟩ := Prod.mk.inj (Option.some.inj h)
          exact ⟨h2, ha, by omega, by simp, by omega⟩
        · rw [if_neg h2] at h; cases h
      · rw [if_neg h1] at h
        cases hp : pT (c :: l) with
        | none => rw [hp] at h; cases h
        | some r =>
          obtain ⟨t, k⟩ := r
          rw [hp] at h
          obtain ⟨⟨ts', n'⟩, hq, he⟩ := Option.map_eq_some_iff.1 h
          obtain ⟨rfl, rfl⟩ : ts' = ts ∧ n' + k = n := Prod.mk.inj he
          obtain ⟨a, b, c'⟩ := hT _ _ _ hl hp
          have hk := len_pos t
          simp at c' hl
          obtain ⟨d, e, f, g, i⟩ := ih.2 (l.drop (k - 1)) (acc ++ [t]) ts' n' (by simp; omega) (oks_snoc ha a) hq
          rw [lens_snoc] at f
          simp at g
          refine ⟨d, e, ?_, ?_, ?_⟩
          · show _ = _ + (n' + k); omega
          · show n' + k ≤ _; simp; omega
          · show 1 ≤ n' + k; omega
theorem pT_ok {l : List UInt8} {t : Tm} {n : Nat} (h : pT l = some (t, n)) : t.ok ∧ t.len = n ∧ n ≤ l.length := (p_ok l.length).1 l t n (Nat.le_refl _) h
theorem pB_ok {l : List UInt8} {acc ts : List Tm} {n : Nat} (ha : Tm.oks acc) (h : pB l acc = some (ts, n)) : 2 ≤ ts.length ∧ Tm.oks ts ∧ Tm.lens ts + 1 = Tm.lens acc + n ∧ n ≤ l.length ∧ 1 ≤ n :=
  (p_ok l.length).2 l acc ts n (Nat.le_refl _) ha h

/-- The row that a term tells, forwards or backwards. -/
def Tm.rowB (t : Tm) (b : Bool) : List UInt8 := if b then t.row.reverse else t.row
def rowsB (ts : List Tm) (b : Bool) : List UInt8 := if b then (Tm.rows ts).reverse else Tm.rows ts
theorem rowB_L (c : UInt8) (b : Bool) : (Tm.L c).rowB b = [c] := by cases b <;> simp [Tm.rowB, Tm.row]
theorem rowB_S (t : Tm) (b : Bool) : (Tm.S t).rowB b = t.rowB (!b) := by cases b <;> simp [Tm.rowB, Tm.row]
theorem rowB_B (ts : List Tm) (b : Bool) : (Tm.B ts).rowB b = rowsB ts b := by cases b <;> simp [Tm.rowB, Tm.row, rowsB]
theorem rowsB_snoc (ts : List Tm) (t : Tm) (b : Bool) : rowsB (ts ++ [t]) b = if b then t.rowB b ++ rowsB ts b else rowsB ts b ++ t.rowB b := by
  cases b <;> simp [rowsB, Tm.rowB, rows_snoc]
theorem rowB_len (t : Tm) (b : Bool) : (t.rowB b).length = t.row.length := by cases b <;> simp [Tm.rowB]
theorem rowsB_len (ts : List Tm) (b : Bool) : (rowsB ts b).length = (Tm.rows ts).length := by cases b <;> simp [rowsB]
theorem take_snocT (ts : List Tm) (k : Nat) (h : k < ts.length) : ts.take (k + 1) = ts.take k ++ [ts[k]] := by rw [List.take_succ_eq_append_getElem h]
end Go.Proofs.YtehadbpbkenccaaGreatDoor
