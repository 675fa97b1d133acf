/- Brackets hold runs of the row: arcs of the ring. -/
import Derived.Test.YthpomflpnmddoaaGreatDoorLawU
import Derived.Test.YthpomflpnmddoaaGreatDoorTp2
import Derived.Test.YthpomflpnmddoaaGreatDoorArM
namespace Go.Proofs.YthpomflpnmddoaaGreatDoor

def InfU (t : List UInt8) (s : Nat) : Prop := ∃ a u b, t = a ++ u ++ b ∧ s = bitsU u
theorem maskN_or : ∀ (l : List Int) (s : Nat), l.foldl (fun s x => s ||| 2 ^ x.toNat) s = s ||| maskN l
  | [], s => by simp [maskN]
  | x :: l, s => by
    rw [List.foldl_cons, maskN_or l]
    show _ = s ||| List.foldl (fun s x => s ||| 2 ^ x.toNat) 0 (x :: l)
    rw [List.foldl_cons, maskN_or l, Nat.zero_or, Nat.or_assoc]
theorem maskN_rev (l : List Int) : maskN l.reverse = maskN l := by
  induction l with
  | nil => rfl
  | cons x l ih =>
    have e : maskN (x :: l) = 2 ^ x.toNat ||| maskN l := by
      show List.foldl (fun s x => s ||| 2 ^ x.toNat) 0 (x :: l) = _
      rw [List.foldl_cons, maskN_or l, Nat.zero_or]
    rw [List.reverse_cons, e, ← ih]
    show List.foldl (fun s x => s ||| 2 ^ x.toNat) 0 (l.reverse ++ [x]) = _
    rw [List.foldl_append, maskN_or l.reverse, Nat.zero_or, List.foldl_cons, List.foldl_nil, Nat.or_comm]
theorem bitsU_rev (u : List UInt8) : bitsU u.reverse = bitsU u := by rw [bitsU, ptsU_rev, maskN_rev]; rfl
mutual
theorem sets_inf : ∀ (t : Tm) (s : Nat), s ∈ t.sets → InfU t.row s
  | .L _, s, h => by simp [Tm.sets] at h
  | .S t, s, h => by
    rw [Tm.sets] at h
    obtain ⟨a, u, b, e, hs⟩ := sets_inf t s h
    exact ⟨b.reverse, u.reverse, a.reverse, by rw [Tm.row, e]; simp, by rw [bitsU_rev]; exact hs⟩
  | .B ts, s, h => by
    rw [Tm.sets] at h
    rcases List.mem_cons.1 h with h | h
    · exact ⟨[], Tm.rows ts, [], by simp [Tm.row], h⟩
    · have := setss_inf ts s h
      rwa [Tm.row]
theorem setss_inf : ∀ (ts : List Tm) (s : Nat), s ∈ Tm.setss ts → InfU (Tm.rows ts) s
  | [], s, h => by simp [Tm.setss] at h
  | t :: ts, s, h => by
    rw [Tm.setss] at h
    rw [Tm.rows]
    rcases List.mem_append.1 h with h | h
    · obtain ⟨a, u, b, e, hs⟩ := sets_inf t s h
      exact ⟨a, u, b ++ Tm.rows ts, by rw [e]; simp, hs⟩
    · obtain ⟨a, u, b, e, hs⟩ := setss_inf ts s h
      exact ⟨t.row ++ a, u, b, by rw [e]; simp, hs⟩
end
theorem one_of_range : ∀ n k : Nat, k < n → ((List.range n).filter fun i => decide (i = k)).length = 1 := by
  intro n
  induction n with
  | zero => intro k h; omega
  | succ n ih =>
    intro k h
    rw [List.range_succ, List.filter_append, List.length_append]
    by_cases hk : k = n
    · subst hk
      have : ((List.range k).filter fun i => decide (i = k)) = [] := by
        refine List.filter_eq_nil_iff.2 fun i hi => ?_
        have := List.mem_range.1 hi
        simp; omega
      rw [this]; simp
    · rw [ih k (by omega)]
      have : ([n].filter fun i => decide (i = k)) = [] := by
        refine List.filter_eq_nil_iff.2 fun i hi => ?_
        simp at hi ⊢; omega
      rw [this]; rfl
/-- One run: the places from a on, m of them, going round n. -/
theorem one_run {p : Int → Bool} {l : List Int} {j a m : Nat} (hj : j < l.length) (hm0 : 0 < m) (hmn : a + m ≤ l.length) (hlt : m < l.length)
    (h : ∀ i, i < l.length → p (l.getD i 0) = decide (a ≤ (j + i) % l.length ∧ (j + i) % l.length < a + m)) : runN p l = 1 := by
  unfold runN runP
  rw [List.length_map]
  obtain ⟨n, hn⟩ : ∃ n, l.length = n := ⟨_, rfl⟩
  rw [hn] at hj hmn hlt h ⊢
  obtain ⟨k, hk⟩ : ∃ k, k = (if j + 1 ≤ a then a - 1 - j else if a = 0 then n - 1 - j else a + n - 1 - j) := ⟨_, rfl⟩
  have hkn : k < n := by rw [hk]; split <;> (try split) <;> omega
  rw [← one_of_range n k hkn]
  congr 1
  refine List.filter_congr fun i hi => ?_
  have hi := List.mem_range.1 hi
  unfold begs
  rw [hn]
  have h1 := h i hi
  have hs : (i + 1) % n < n := Nat.mod_lt _ (by omega)
  have h2 := h _ hs
  rw [Nat.add_mod_mod] at h2
  rw [h1, h2]
  have m1 : (j + i) % n = if j + i < n then j + i else j + i - n := by
    split
    · exact Nat.mod_eq_of_lt (by omega)
    · rw [Nat.mod_eq_sub_mod (by omega), Nat.mod_eq_of_lt (by omega)]
  have m2 : (j + (i + 1)) % n = if j + i + 1 < n then j + i + 1 else j + i + 1 - n := by
    split
    · exact Nat.mod_eq_of_lt (by omega)
    · rw [Nat.mod_eq_sub_mod (by omega), Nat.mod_eq_of_lt (by omega)]
      omega
  rw [m1, m2, Bool.eq_iff_iff]
  simp only [Bool.and_eq_true, Bool.not_eq_true', decide_eq_true_eq, decide_eq_false_iff_not]
  rw [hk]
  split <;> split <;> split <;> (try split) <;> omega
theorem ptsU_mem_at {p A U B : List Int} (hd : p.Nodup) (e : p = A ++ U ++ B) {q : Nat} (hq : q < p.length) : p.getD q 0 ∈ U ↔ A.length ≤ q ∧ q < A.length + U.length := by
  have hlen : p.length = A.length + U.length + B.length := by rw [e]; simp; omega
  have hinj : ∀ i j, i < p.length → j < p.length → p.getD i 0 = p.getD j 0 → i = j := fun i j hi hj h => by
    have a := idx_backU hd hi
    have b := idx_backU hd hj
    rw [h, b] at a
    exact a.symm
  have hU : ∀ k, k < U.length → p.getD (A.length + k) 0 = U.getD k 0 := fun k hk => by
    simp only [List.getD]
    rw [e, List.append_assoc, List.getElem?_append_right (by omega), show A.length + k - A.length = k by omega, List.getElem?_append_left hk]
  constructor
  · intro h
    obtain ⟨k, hk, e2⟩ := List.getElem_of_mem h
    have e3 : U.getD k 0 = p.getD q 0 := by simp [List.getD, hk, e2]
    rw [← hU k hk] at e3
    have := hinj _ _ (by omega) hq e3
    omega
  · rintro ⟨h1, h2⟩
    have := hU (q - A.length) (by omega)
    rw [show A.length + (q - A.length) = q by omega] at this
    rw [this]
    exact getD_mem U _ (by omega)
/-- A bracketed set that is not all is one run of the ring. -/
theorem arcs_run {t : Tm} (hok : t.ok) (hT : Tell (ptsU t.row)) {x : Int} (hx : x ∈ t.arcs) : ∃ s : Nat, x = (s : Int) ∧ s ≤ 2 ^ t.row.length - 1 ∧ runN (hasN s) (cutL (ptsU t.row) 0) = 1 := by
  obtain ⟨s, rfl, hs0, hs1, hs⟩ := (arcs_mem t x).1 hx
  refine ⟨s, rfl, by omega, ?_⟩
  obtain ⟨a, u, b, e, hu⟩ := sets_inf t s hs
  have hL := row_L t hok
  have hLu : ∀ c ∈ u, isL c = true := fun c hc => hL c (by rw [e]; simp [hc])
  have ep : ptsU t.row = ptsU a ++ ptsU u ++ ptsU b := by rw [e, ptsU_app, ptsU_app]
  have hl := ptsU_len t.row
  have hla := ptsU_len a
  have hlu := ptsU_len u
  have hlb := ptsU_len b
  have hle : t.row.length = a.length + u.length + b.length := by rw [e]; simp; omega
  have hi := List.idxOf_lt_length_of_mem hT.zero
  have hpos : 0 < u.length := by
    rcases Nat.eq_zero_or_pos u.length with h | h
    · have := List.eq_nil_of_length_eq_zero h
      rw [this] at hu
      have : bitsU [] = 0 := rfl
      omega
    · exact h
  have hlt : u.length < t.row.length := by
    rcases Nat.lt_or_ge u.length t.row.length with h | h
    · exact h
    · have ha : a = [] := List.eq_nil_of_length_eq_zero (by omega)
      have hb : b = [] := List.eq_nil_of_length_eq_zero (by omega)
      rw [ha, hb, List.nil_append, List.append_nil] at e
      have := bits_full hT
      rw [e, ← hu, ← e] at this
      omega
  refine one_run (j := (ptsU t.row).idxOf 0) (a := a.length) (m := u.length) (by rw [cutL_length]; exact hi) hpos (by rw [cutL_length, hl]; omega) (by rw [cutL_length, hl]; exact hlt) ?_
  intro i hil
  rw [cutL_length] at hil ⊢
  rw [cutL_get _ 0 i hil]
  have hq : ((ptsU t.row).idxOf 0 + i) % (ptsU t.row).length < (ptsU t.row).length := Nat.mod_lt _ (by omega)
  have hm := ptsU_mem_at hT.2.2.2 ep hq
  rw [hla, hlu] at hm
  have hx0 := hT.2.2.1 _ (getD_mem (ptsU t.row) _ hq)
  generalize (ptsU t.row).getD (((ptsU t.row).idxOf 0 + i) % (ptsU t.row).length) 0 = y at hm hx0 ⊢
  rw [hasN, hu, bitsU_bit hLu, decide_eq_decide, ← hm]
  rw [show ((y.toNat : Nat) : Int) = y by omega]
theorem arcs_less (t : Tm) : t.arcs.Pairwise (· < ·) := by
  unfold Tm.arcs
  rw [List.pairwise_map]
  refine List.Pairwise.filter _ ?_
  exact List.pairwise_lt_range.imp (fun h => by omega)
theorem nrm_bits (ts : List Tm) (b : Bool) : bitsU (rowsB ts b) = bitsU (Tm.rows ts) := by
  cases b
  · rfl
  · exact bitsU_rev _
theorem setss_app (a b : List Tm) : Tm.setss (a ++ b) = Tm.setss a ++ Tm.setss b := by
  induction a with
  | nil => simp [Tm.setss]
  | cons t a ih => rw [List.cons_append, Tm.setss, ih, Tm.setss, List.append_assoc]
mutual
theorem nrm_sets : ∀ (t : Tm) (b : Bool) (s : Nat), s ∈ (t.nrm b).sets ↔ s ∈ t.sets
  | .L c, b, s => by rw [Tm.nrm]
  | .S t, b, s => by rw [Tm.nrm, Tm.sets]; exact nrm_sets t (!b) s
  | .B ts, b, s => by
    rw [Tm.nrm, Tm.sets, Tm.sets, nrms_rows, nrm_bits, List.mem_cons, List.mem_cons, nrms_setss ts b s]
theorem nrms_setss : ∀ (ts : List Tm) (b : Bool) (s : Nat), s ∈ Tm.setss (Tm.nrms b ts) ↔ s ∈ Tm.setss ts
  | [], b, s => by simp [Tm.nrms]
  | t :: ts, b, s => by
    rw [Tm.nrms]
    cases b
    · simp only [Bool.false_eq_true, if_false]
      rw [Tm.setss, Tm.setss, List.mem_append, List.mem_append, nrm_sets t false s, nrms_setss ts false s]
    · simp only [if_true]
      rw [setss_snoc, Tm.setss, List.mem_append, List.mem_append, nrm_sets t true s, nrms_setss ts true s, or_comm]
end
/-- What is tidied has the same arcs. -/
theorem tidy_arcs {l : List UInt8} {t : Tm} (h : ringT l = some t) : ∃ u : Tm, ringT (t.tidy false) = some u ∧ u.arcs = t.arcs := by
  obtain ⟨h1, hT⟩ := ringT_ok h
  obtain ⟨hok, hlen, h60⟩ := rdT_ok h1
  have hr : (t.nrm false).row = t.row := by rw [nrm_row]; simp [Tm.rowB]
  have hx := nrm_txt t false
  have hl : (t.nrm false).len ≤ 60 := by
    have h2 := tidy_le t false
    rw [← txt_len, hx]; omega
  have := ring_txt (t := t.nrm false) (nrm_ok t false hok) hl (by rw [hr]; exact hT)
  rw [hx] at this
  refine ⟨_, this, sorted_ext (arcs_less _) (arcs_less _) fun x => ?_⟩
  rw [arcs_mem, arcs_mem, hr]
  constructor <;> rintro ⟨s, h1, h2, h3, h4⟩
  · exact ⟨s, h1, h2, h3, (nrm_sets t false s).1 h4⟩
  · exact ⟨s, h1, h2, h3, (nrm_sets t false s).2 h4⟩
end Go.Proofs.YthpomflpnmddoaaGreatDoor
