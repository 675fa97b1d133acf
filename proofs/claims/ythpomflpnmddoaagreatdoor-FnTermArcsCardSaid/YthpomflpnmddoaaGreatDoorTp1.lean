/- What a term's text tells: the parser and the writer undo each other. -/
import Derived.Test.YthpomflpnmddoaaGreatDoorTmQ
namespace Go.Proofs.YthpomflpnmddoaaGreatDoor
open Go.ChangeShapes Go.WideShapes Go.ChangeAt Go.RowKit

mutual
def Tm.txt : Tm → List UInt8
  | .L c => [c]
  | .S t => 45 :: t.txt
  | .B ts => 40 :: (Tm.txts ts ++ [41])
def Tm.txts : List Tm → List UInt8
  | [] => []
  | t :: ts => t.txt ++ Tm.txts ts
end
mutual
theorem txt_len : ∀ t : Tm, t.txt.length = t.len
  | .L c => by simp [Tm.txt, Tm.len]
  | .S t => by simp [Tm.txt, Tm.len, txt_len t]
  | .B ts => by simp [Tm.txt, Tm.len, txts_len ts]
theorem txts_len : ∀ ts : List Tm, (Tm.txts ts).length = Tm.lens ts
  | [] => by simp [Tm.txts, Tm.lens]
  | t :: ts => by simp [Tm.txts, Tm.lens, txt_len t, txts_len ts]
end
theorem txts_snoc (ts : List Tm) (t : Tm) : Tm.txts (ts ++ [t]) = Tm.txts ts ++ t.txt := by
  induction ts with
  | nil => simp [Tm.txts]
  | cons a ts ih => rw [List.cons_append, Tm.txts, ih, Tm.txts, List.append_assoc]

mutual
theorem pT_txt : ∀ (t : Tm), t.ok → ∀ r, pT (t.txt ++ r) = some (t, t.len)
  | .L c, h, r => by
    rw [Tm.ok] at h
    rw [Tm.txt, Tm.len]
    exact pT_let r h
  | .S t, h, r => by
    rw [Tm.ok] at h
    rw [Tm.txt, Tm.len, List.cons_append, pT_sign, pT_txt t h r]
    rfl
  | .B ts, h, r => by
    rw [Tm.ok] at h
    rw [Tm.txt, Tm.len, List.cons_append, List.append_assoc, pT_open, List.singleton_append, pB_txts ts h.2 [] r (by simpa using h.1)]
    rfl
theorem pB_txts : ∀ (ts : List Tm), Tm.oks ts → ∀ (acc : List Tm) r, 2 ≤ acc.length + ts.length → pB (Tm.txts ts ++ 41 :: r) acc = some (acc ++ ts, Tm.lens ts + 1)
  | [], _, acc, r, hn => by
    rw [Tm.txts, List.nil_append, pB_close, if_pos (by simpa using hn)]
    simp [Tm.lens]
  | t :: ts, h, acc, r, hn => by
    rw [Tm.oks] at h
    have hp := pT_txt t h.1 (Tm.txts ts ++ 41 :: r)
    have hl := txt_len t
    have hq := pB_txts ts h.2 (acc ++ [t]) r (by simp at hn ⊢; omega)
    rw [Tm.txts, List.append_assoc]
    obtain ⟨c, l, hc, hcl⟩ : ∃ c l, t.txt = c :: l ∧ c ≠ 41 := by
      cases t with
      | L c => rw [Tm.ok] at h; exact ⟨c, [], by rw [Tm.txt], fun e => by subst e; exact absurd h.1 (by decide)⟩
      | S t => exact ⟨45, t.txt, by rw [Tm.txt], by decide⟩
      | B us => exact ⟨40, _, by rw [Tm.txt], by decide⟩
    rw [hc] at hp hl ⊢
    rw [List.cons_append] at hp ⊢
    rw [pB_some _ acc hcl hp]
    have hd : (l ++ (Tm.txts ts ++ 41 :: r)).drop (t.len - 1) = Tm.txts ts ++ 41 :: r := by
      rw [← hl]; simp
    rw [hd, hq]
    simp [Tm.lens]
    omega
end

theorem take_back (m : Nat) : (∀ l t n, l.length ≤ m → pT l = some (t, n) → l.take n = t.txt) ∧
    (∀ l acc ts n, l.length ≤ m → Tm.oks acc → pB l acc = some (ts, n) → Tm.txts acc ++ l.take n = Tm.txts ts ++ [41]) := by
  induction m with
  | zero =>
    refine ⟨fun l t n hl h => ?_, fun l acc ts n hl _ h => ?_⟩
    · obtain rfl : l = [] := List.length_eq_zero_iff.1 (by omega)
      rw [pT_nil] at h; cases h
    · obtain rfl : l = [] := List.length_eq_zero_iff.1 (by omega)
      rw [pB_nil] at h; cases h
  | succ m ih =>
    have hT : ∀ l t n, l.length ≤ m + 1 → pT l = some (t, n) → l.take n = t.txt := by
      intro l t n hl h
      match l with
      | [] => rw [pT_nil] at h; cases h
      | c :: l =>
        rw [pT] at h
        by_cases h1 : isL c = true
        · rw [if_pos h1] at h
          obtain ⟨rfl, rfl⟩ := Prod.mk.inj (Option.some.inj h)
          simp [Tm.txt]
        · rw [if_neg h1] at h
          by_cases h2 : c = 45
          · rw [if_pos h2] at h
            obtain ⟨⟨t', n'⟩, hp, he⟩ := Option.map_eq_some_iff.1 h
            obtain ⟨rfl, rfl⟩ : Tm.S t' = t ∧ n' + 1 = n := Prod.mk.inj he
            have := ih.1 l t' n' (by simpa using hl) hp
            show List.take (n' + 1) (c :: l) = _
            rw [Tm.txt, List.take_succ_cons, this, h2]
          · rw [if_neg h2] at h
            by_cases h3 : c = 40
            · rw [if_pos h3] at h
              obtain ⟨⟨ts', n'⟩, hp, he⟩ := Option.map_eq_some_iff.1 h
              obtain ⟨rfl, rfl⟩ : Tm.B ts' = t ∧ n' + 1 = n := Prod.mk.inj he
              have := ih.2 l [] ts' n' (by simpa using hl) (by simp [Tm.oks]) hp
              show List.take (n' + 1) (c :: l) = _
              rw [Tm.txt, List.take_succ_cons, h3, ← this]
              simp [Tm.txts]
            · rw [if_neg h3] at h; cases h
    refine ⟨hT, fun l acc ts n hl ha h => ?_⟩
    match l with
    | [] => rw [pB_nil] at h; cases h
    | c :: l =>
      rw [pB] at h
      by_cases h1 : c = 41
      · rw [if_pos h1] at h
        by_cases h2 : 2 ≤ acc.length
        · rw [if_pos h2] at h
          obtain ⟨rfl, rfl⟩ := Prod.mk.inj (Option.some.inj h)
          simp [h1]
        · rw [if_neg h2] at h; cases h
      · rw [if_neg h1] at h
        cases hp : pT (c :: l) with
        | none => rw [hp] at h; cases h
        | some r =>
          obtain ⟨t, k⟩ := r
          rw [hp] at h
          obtain ⟨⟨ts', n'⟩, hq, he⟩ := Option.map_eq_some_iff.1 h
          obtain ⟨rfl, rfl⟩ : ts' = ts ∧ n' + k = n := Prod.mk.inj he
          have ht := hT _ _ _ hl hp
          obtain ⟨a, b, c'⟩ := pT_ok hp
          have hk := len_pos t
          have hc1 := c'
          simp at c' hl
          have hq2 := ih.2 (l.drop (k - 1)) (acc ++ [t]) ts' n' (by simp; omega) (oks_snoc ha a) hq
          rw [txts_snoc, ← ht, List.append_assoc] at hq2
          rw [← hq2]
          show Tm.txts acc ++ List.take (n' + k) (c :: l) = _
          congr 1
          have e : l.drop (k - 1) = (c :: l).drop k := by
            obtain ⟨j, rfl⟩ : ∃ j, k = j + 1 := ⟨k - 1, by omega⟩
            simp
          rw [e, Nat.add_comm n' k, List.take_add]
theorem rd_txt {l : List UInt8} {t : Tm} (h : rdT l = some t) : l = t.txt := by
  unfold rdT at h
  by_cases h1 : l.length ≤ 60
  · rw [if_pos h1] at h
    rcases hp : pT l with _ | ⟨u, n⟩
    · rw [hp] at h; cases h
    · rw [hp] at h
      simp only at h
      by_cases h2 : n = l.length
      · rw [if_pos h2] at h
        obtain rfl := Option.some.inj h
        have := (take_back l.length).1 l u n (Nat.le_refl _) hp
        rw [h2, List.take_length] at this
        exact this
      · rw [if_neg h2] at h; cases h
  · rw [if_neg h1] at h; cases h
theorem rd_of {t : Tm} (hok : t.ok) (h60 : t.len ≤ 60) : rdT t.txt = some t := by
  unfold rdT
  rw [if_pos (by rw [txt_len]; exact h60)]
  have := pT_txt t hok []
  rw [List.append_nil] at this
  rw [this]
  simp [txt_len]
theorem rd_more {l : List UInt8} {t : Tm} (h : rdT l = some t) {r : List UInt8} (hr : r ≠ []) : rdT (l ++ r) = none := by
  obtain ⟨hok, hlen, _⟩ := rdT_ok h
  have e := rd_txt h
  unfold rdT
  by_cases h1 : (l ++ r).length ≤ 60
  · rw [if_pos h1]
    have hp := pT_txt t hok r
    rw [← e] at hp
    rw [hp]
    have : 0 < r.length := List.length_pos_iff.2 hr
    simp only
    rw [if_neg (by simp; omega)]
  · rw [if_neg h1]
theorem tell_rev {l : List Int} (h : Tell l) : Tell l.reverse := by
  obtain ⟨h1, h2, h3, h4⟩ := h
  refine ⟨by simpa using h1, by simpa using h2, fun x hx => by have := h3 x (by simpa using hx); simpa using this, ?_⟩
  unfold List.Nodup at h4 ⊢
  rw [List.pairwise_reverse]
  exact h4.imp fun h => Ne.symm h
theorem ptsU_rev (r : List UInt8) : ptsU r.reverse = (ptsU r).reverse := by simp [ptsU]
theorem ring_txt {t : Tm} (hok : t.ok) (h60 : t.len ≤ 60) (hT : Tell (ptsU t.row)) : ringT t.txt = some t := by
  unfold ringT
  rw [rd_of hok h60]
  simp [hT]
theorem ring_more {l : List UInt8} {t : Tm} (h : ringT l = some t) {r : List UInt8} (hr : r ≠ []) : ringT (l ++ r) = none := by
  unfold ringT
  rw [rd_more (ringT_ok h).1 hr]
theorem ring_sign {l : List UInt8} {t : Tm} (h : ringT l = some t) (h59 : l.length ≤ 59) : ringT (45 :: l) = some (.S t) := by
  obtain ⟨h1, hT⟩ := ringT_ok h
  obtain ⟨hok, hlen, _⟩ := rdT_ok h1
  have e := rd_txt h1
  have := ring_txt (t := .S t) (by rw [Tm.ok]; exact hok) (by rw [Tm.len]; omega) (by rw [Tm.row, ptsU_rev]; exact tell_rev hT)
  rw [Tm.txt, ← e] at this
  exact this

mutual
theorem dep_row : ∀ t : Tm, t.ok → t.dep < t.row.length
  | .L c, _ => by simp [Tm.dep, Tm.row]
  | .S t, h => by rw [Tm.ok] at h; rw [Tm.dep, Tm.row, List.length_reverse]; exact dep_row t h
  | .B ts, h => by
    rw [Tm.ok] at h
    have := deps_rows ts h.2
    rw [Tm.dep, Tm.row]; omega
theorem deps_rows : ∀ ts : List Tm, Tm.oks ts → Tm.deps ts + ts.length ≤ (Tm.rows ts).length
  | [], _ => by simp [Tm.deps, Tm.rows]
  | t :: ts, h => by
    rw [Tm.oks] at h
    have h1 := dep_row t h.1
    have h2 := deps_rows ts h.2
    have h3 := rows_pos ts h.2
    rw [Tm.deps, Tm.rows, List.length_append, List.length_cons]
    rcases Nat.le_total t.dep (Tm.deps ts) with h4 | h4
    · rw [Nat.max_eq_right h4]; omega
    · rw [Nat.max_eq_left h4]; omega
end
theorem dep_pos : ∀ t : Tm, 2 ≤ t.row.length → 1 ≤ t.dep
  | .L c, h => by simp [Tm.row] at h
  | .S t, h => by rw [Tm.row, List.length_reverse] at h; rw [Tm.dep]; exact dep_pos t h
  | .B ts, _ => by rw [Tm.dep]; omega

/-- Letters in one pair of brackets. -/
def flt (r : List UInt8) : Tm := .B (r.map .L)
theorem rowsL_L (r : List UInt8) : Tm.rows (r.map .L) = r := by
  induction r with
  | nil => simp [Tm.rows]
  | cons c r ih => rw [List.map_cons, Tm.rows, ih, Tm.row, List.singleton_append]
theorem txts_L (r : List UInt8) : Tm.txts (r.map .L) = r := by
  induction r with
  | nil => simp [Tm.txts]
  | cons c r ih => rw [List.map_cons, Tm.txts, ih, Tm.txt, List.singleton_append]
theorem deps_L (r : List UInt8) : Tm.deps (r.map .L) = 0 := by
  induction r with
  | nil => simp [Tm.deps]
  | cons c r ih => rw [List.map_cons, Tm.deps, ih, Tm.dep]; rfl
theorem lens_L (r : List UInt8) : Tm.lens (r.map .L) = r.length := by
  induction r with
  | nil => simp [Tm.lens]
  | cons c r ih => rw [List.map_cons, Tm.lens, ih, Tm.len, List.length_cons]; omega
theorem oks_L {r : List UInt8} (h : ∀ c ∈ r, isL c = true) : Tm.oks (r.map .L) := by
  induction r with
  | nil => simp [Tm.oks]
  | cons c r ih =>
    rw [List.map_cons, Tm.oks, Tm.ok]
    exact ⟨h c (by simp), ih fun d hd => h d (by simp [hd])⟩
theorem flt_txt (r : List UInt8) : (flt r).txt = 40 :: (r ++ [41]) := by rw [flt, Tm.txt, txts_L]
theorem flt_row (r : List UInt8) : (flt r).row = r := by rw [flt, Tm.row, rowsL_L]
theorem flt_dep (r : List UInt8) : (flt r).dep = 1 := by rw [flt, Tm.dep, deps_L]
theorem flt_len (r : List UInt8) : (flt r).len = r.length + 2 := by rw [flt, Tm.len, lens_L]
theorem flt_ok {r : List UInt8} (h : ∀ c ∈ r, isL c = true) (h2 : 2 ≤ r.length) : (flt r).ok := by
  rw [flt, Tm.ok]
  exact ⟨by simpa using h2, oks_L h⟩
theorem ring_flt {l : List UInt8} {t : Tm} (h : ringT l = some t) : ringT (40 :: (t.row ++ [41])) = some (flt t.row) := by
  obtain ⟨h1, hT⟩ := ringT_ok h
  obtain ⟨hok, hlen, h60⟩ := rdT_ok h1
  have h3 := hT.1
  have h7 := hT.2.1
  rw [ptsU_len] at h3 h7
  have := ring_txt (t := flt t.row) (flt_ok (row_L t hok) (by omega)) (by rw [flt_len]; omega) (by rw [flt_row]; exact hT)
  rwa [flt_txt] at this

mutual
def Tm.nrm : Bool → Tm → Tm
  | _, .L c => .L c
  | b, .S t => t.nrm (!b)
  | b, .B ts => .B (Tm.nrms b ts)
def Tm.nrms : Bool → List Tm → List Tm
  | _, [] => []
  | b, t :: ts => if b then Tm.nrms b ts ++ [t.nrm b] else t.nrm b :: Tm.nrms b ts
end
theorem txts_app (a b : List Tm) : Tm.txts (a ++ b) = Tm.txts a ++ Tm.txts b := by
  induction a with
  | nil => simp [Tm.txts]
  | cons t a ih => rw [List.cons_append, Tm.txts, ih, Tm.txts, List.append_assoc]
mutual
theorem nrm_txt : ∀ (t : Tm) (b : Bool), (t.nrm b).txt = t.tidy b
  | .L c, b => by rw [Tm.nrm, Tm.txt, Tm.tidy]
  | .S t, b => by rw [Tm.nrm, Tm.tidy]; exact nrm_txt t (!b)
  | .B ts, b => by rw [Tm.nrm, Tm.txt, Tm.tidy, nrms_txts ts b]
theorem nrms_txts : ∀ (ts : List Tm) (b : Bool), Tm.txts (Tm.nrms b ts) = Tm.tidys b ts
  | [], b => by simp [Tm.nrms, Tm.txts, Tm.tidys]
  | t :: ts, b => by
    rw [Tm.nrms, Tm.tidys]
    cases b
    · simp [Tm.txts, nrm_txt t false, nrms_txts ts false]
    · simp [txts_snoc, nrm_txt t true, nrms_txts ts true]
end
theorem nrms_len : ∀ (ts : List Tm) (b : Bool), (Tm.nrms b ts).length = ts.length
  | [], b => by simp [Tm.nrms]
  | t :: ts, b => by
    rw [Tm.nrms]
    cases b <;> simp [nrms_len ts]
mutual
theorem nrm_ok : ∀ (t : Tm) (b : Bool), t.ok → (t.nrm b).ok
  | .L c, b, h => by rw [Tm.nrm]; exact h
  | .S t, b, h => by rw [Tm.ok] at h; rw [Tm.nrm]; exact nrm_ok t (!b) h
  | .B ts, b, h => by rw [Tm.ok] at h; rw [Tm.nrm, Tm.ok, nrms_len]; exact ⟨h.1, nrms_oks ts b h.2⟩
theorem nrms_oks : ∀ (ts : List Tm) (b : Bool), Tm.oks ts → Tm.oks (Tm.nrms b ts)
  | [], b, _ => by simp [Tm.nrms, Tm.oks]
  | t :: ts, b, h => by
    rw [Tm.oks] at h
    rw [Tm.nrms]
    cases b
    · simp only [Bool.false_eq_true, if_false]
      rw [Tm.oks]
      exact ⟨nrm_ok t false h.1, nrms_oks ts false h.2⟩
    · simp only [if_true]
      exact oks_snoc (nrms_oks ts true h.2) (nrm_ok t true h.1)
end
mutual
theorem nrm_row : ∀ (t : Tm) (b : Bool), (t.nrm b).row = t.rowB b
  | .L c, b => by rw [Tm.nrm, rowB_L, Tm.row]
  | .S t, b => by rw [Tm.nrm, rowB_S]; exact nrm_row t (!b)
  | .B ts, b => by rw [Tm.nrm, rowB_B, Tm.row]; exact nrms_rows ts b
theorem nrms_rows : ∀ (ts : List Tm) (b : Bool), Tm.rows (Tm.nrms b ts) = rowsB ts b
  | [], b => by cases b <;> simp [Tm.nrms, Tm.rows, rowsB]
  | t :: ts, b => by
    rw [Tm.nrms]
    cases b
    · have h1 := nrm_row t false
      have h2 := nrms_rows ts false
      simp [Tm.rowB, rowsB] at h1 h2
      simp [Tm.rows, rowsB, h1, h2]
    · have h1 := nrm_row t true
      have h2 := nrms_rows ts true
      simp [Tm.rowB, rowsB] at h1 h2
      simp [rows_snoc, Tm.rows, rowsB, h1, h2]
end
mutual
theorem nrm_dep : ∀ (t : Tm) (b : Bool), (t.nrm b).dep = t.dep
  | .L c, b => by rw [Tm.nrm]
  | .S t, b => by rw [Tm.nrm, Tm.dep]; exact nrm_dep t (!b)
  | .B ts, b => by rw [Tm.nrm, Tm.dep, Tm.dep, nrms_deps ts b]
theorem nrms_deps : ∀ (ts : List Tm) (b : Bool), Tm.deps (Tm.nrms b ts) = Tm.deps ts
  | [], b => by simp [Tm.nrms]
  | t :: ts, b => by
    rw [Tm.nrms]
    cases b
    · simp [Tm.deps, nrm_dep t false, nrms_deps ts false]
    · simp [deps_snoc, Tm.deps, nrm_dep t true, nrms_deps ts true, Nat.max_comm]
end
theorem nrms_app_false (a b : List Tm) : Tm.nrms false (a ++ b) = Tm.nrms false a ++ Tm.nrms false b := by
  induction a with
  | nil => simp [Tm.nrms]
  | cons t a ih => rw [List.cons_append, Tm.nrms, Tm.nrms, ih]; simp
mutual
theorem nrm_nrm : ∀ (t : Tm) (b : Bool), (t.nrm b).nrm false = t.nrm b
  | .L c, b => by rw [Tm.nrm, Tm.nrm]
  | .S t, b => by rw [Tm.nrm]; exact nrm_nrm t (!b)
  | .B ts, b => by rw [Tm.nrm, Tm.nrm, nrms_nrms ts b]
theorem nrms_nrms : ∀ (ts : List Tm) (b : Bool), Tm.nrms false (Tm.nrms b ts) = Tm.nrms b ts
  | [], b => by simp [Tm.nrms]
  | t :: ts, b => by
    cases b
    · have h1 := nrm_nrm t false
      have h2 := nrms_nrms ts false
      simp [Tm.nrms, h1, h2]
    · have h1 := nrm_nrm t true
      have h2 := nrms_nrms ts true
      have e : Tm.nrms true (t :: ts) = Tm.nrms true ts ++ [t.nrm true] := by rw [Tm.nrms]; simp
      rw [e, nrms_app_false, h2]
      simp [Tm.nrms, h1]
end
mutual
theorem tidy_no : ∀ (t : Tm) (b : Bool), t.ok → ∀ c ∈ t.tidy b, c ≠ 45
  | .L c, b, h, d, hd => by
    rw [Tm.ok] at h
    rw [Tm.tidy] at hd
    obtain rfl : d = c := by simpa using hd
    intro e; subst e; exact absurd h (by decide)
  | .S t, b, h, d, hd => by rw [Tm.ok] at h; rw [Tm.tidy] at hd; exact tidy_no t (!b) h d hd
  | .B ts, b, h, d, hd => by
    rw [Tm.ok] at h
    rw [Tm.tidy] at hd
    rcases List.mem_cons.1 hd with e | hd
    · rw [e]; decide
    · rcases List.mem_append.1 hd with hd | hd
      · exact tidys_no ts b h.2 d hd
      · obtain rfl : d = 41 := by simpa using hd
        decide
theorem tidys_no : ∀ (ts : List Tm) (b : Bool), Tm.oks ts → ∀ c ∈ Tm.tidys b ts, c ≠ 45
  | [], b, _, d, hd => by simp [Tm.tidys] at hd
  | t :: ts, b, h, d, hd => by
    rw [Tm.oks] at h
    rw [Tm.tidys] at hd
    have hd2 : d ∈ t.tidy b ∨ d ∈ Tm.tidys b ts := by
      cases b
      · simpa using hd
      · simpa [or_comm] using hd
    rcases hd2 with h1 | h1
    · exact tidy_no t b h.1 d h1
    · exact tidys_no ts b h.2 d h1
end
/-- What is tidied is a term that tells the same. -/
theorem ring_tidy {l : List UInt8} {t : Tm} (h : ringT l = some t) : ∃ u : Tm, ringT (t.tidy false) = some u ∧ u.row = t.row ∧ u.dep = t.dep ∧ u.tidy false = t.tidy false := by
  obtain ⟨h1, hT⟩ := ringT_ok h
  obtain ⟨hok, hlen, h60⟩ := rdT_ok h1
  have hr : (t.nrm false).row = t.row := by rw [nrm_row]; simp [Tm.rowB]
  have hx := nrm_txt t false
  have hl : (t.nrm false).len ≤ 60 := by
    have h2 := tidy_le t false
    rw [← txt_len, hx]; omega
  have := ring_txt (t := t.nrm false) (nrm_ok t false hok) hl (by rw [hr]; exact hT)
  rw [hx] at this
  exact ⟨_, this, hr, nrm_dep t false, by rw [← nrm_txt, nrm_nrm, hx]⟩
end Go.Proofs.YthpomflpnmddoaaGreatDoor
