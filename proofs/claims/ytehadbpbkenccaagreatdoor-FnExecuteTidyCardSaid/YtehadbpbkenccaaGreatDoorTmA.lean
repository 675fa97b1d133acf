/- The sets of the terms in brackets: no one twice. Plain maths. -/
import Derived.Test.YtehadbpbkenccaaGreatDoorTmM
import Derived.Test.YtehadbpbkenccaaGreatDoorMA
namespace Go.Proofs.YtehadbpbkenccaaGreatDoor

/-- The points that letters stand for. -/
def ptsU (r : List UInt8) : List Int := r.map fun c => (c.toNat : Int) - 97
theorem ptsU_len (r : List UInt8) : (ptsU r).length = r.length := by simp [ptsU]
theorem ptsU_in {r : List UInt8} (h : ∀ c ∈ r, isL c = true) : ∀ x ∈ ptsU r, 0 ≤ x ∧ x < 7 := by
  intro x hx
  obtain ⟨c, hc, rfl⟩ := List.mem_map.1 hx
  have := h c hc
  simp [isL] at this
  omega
theorem ptsU_mem {r : List UInt8} {c : UInt8} : (c.toNat : Int) - 97 ∈ ptsU r ↔ c ∈ r := by
  constructor
  · intro h
    obtain ⟨d, hd, e⟩ := List.mem_map.1 h
    have : d = c := UInt8.toNat_inj.1 (by omega)
    exact this ▸ hd
  · exact fun h => List.mem_map.2 ⟨c, h, rfl⟩
theorem ptsU_nodup {r : List UInt8} (h : (ptsU r).Nodup) : r.Nodup := by
  unfold ptsU at h
  rw [List.nodup_iff_pairwise_ne, List.pairwise_map] at h
  rw [List.nodup_iff_pairwise_ne]
  exact h.imp fun hab e => hab (by rw [e])
theorem ptsU_app (r s : List UInt8) : ptsU (r ++ s) = ptsU r ++ ptsU s := by simp [ptsU]

def bitsU (r : List UInt8) : Nat := maskN (ptsU r)
theorem bitsU_bit {r : List UInt8} (h : ∀ c ∈ r, isL c = true) (j : Nat) : (bitsU r).testBit j = decide ((j : Int) ∈ ptsU r) := by
  have := mask_bit (ptsU r) (fun x hx => (ptsU_in h x hx).1) j 0
  simpa [bitsU, maskN] using this
theorem bitsU_mem {r : List UInt8} (h : ∀ c ∈ r, isL c = true) {c : UInt8} (hc : isL c = true) : (bitsU r).testBit (c.toNat - 97) = true ↔ c ∈ r := by
  rw [bitsU_bit h, decide_eq_true_iff, ← ptsU_mem]
  simp [isL] at hc
  rw [show ((c.toNat - 97 : Nat) : Int) = (c.toNat : Int) - 97 by omega]
theorem bitsU_sub {r s : List UInt8} (hr : ∀ c ∈ r, isL c = true) (hs : ∀ c ∈ s, isL c = true) (e : bitsU r = bitsU s) : ∀ c ∈ r, c ∈ s := fun c hc =>
  (bitsU_mem hs (hr c hc)).1 (e ▸ (bitsU_mem hr (hr c hc)).2 hc)

mutual
def Tm.sets : Tm → List Nat
  | .L _ => []
  | .S t => t.sets
  | .B ts => bitsU (Tm.rows ts) :: Tm.setss ts
def Tm.setss : List Tm → List Nat
  | [] => []
  | t :: ts => t.sets ++ Tm.setss ts
end
theorem setss_snoc (ts : List Tm) (t : Tm) : Tm.setss (ts ++ [t]) = Tm.setss ts ++ t.sets := by
  induction ts with
  | nil => simp [Tm.setss]
  | cons a ts ih => simp [Tm.setss, ih]
mutual
theorem sets_le : ∀ t : Tm, t.sets.length ≤ t.len
  | .L c => by simp [Tm.sets, Tm.len]
  | .S t => by have := sets_le t; simp [Tm.sets, Tm.len]; omega
  | .B ts => by have := setss_le ts; simp [Tm.sets, Tm.len]; omega
theorem setss_le : ∀ ts : List Tm, (Tm.setss ts).length ≤ Tm.lens ts
  | [] => by simp [Tm.setss, Tm.lens]
  | t :: ts => by have := sets_le t; have := setss_le ts; simp [Tm.setss, Tm.lens]; omega
end

theorem nodup_sub : ∀ (l s : List UInt8), l.Nodup → (∀ c ∈ l, c ∈ s) → l.length ≤ s.length
  | [], s, _, _ => by simp
  | a :: l, s, hd, h => by
    rw [List.nodup_cons] at hd
    have ha := h a (by simp)
    have hp := List.perm_cons_erase ha
    have := nodup_sub l (s.erase a) hd.2 fun c hc => by
      rcases List.mem_cons.1 (hp.mem_iff.1 (h c (by simp [hc]))) with e | e
      · exact absurd (e ▸ hc) hd.1
      · exact e
    have := hp.length_eq
    simp at this ⊢
    omega
theorem mem_rows_len : ∀ {ts : List Tm} {t : Tm}, Tm.oks ts → t ∈ ts → t.row.length + ts.length ≤ (Tm.rows ts).length + 1
  | [], t, _, h => by simp at h
  | a :: ts, t, hk, h => by
    rw [Tm.oks] at hk
    rw [Tm.rows, List.length_append]
    rcases List.mem_cons.1 h with rfl | h
    · have := rows_pos ts hk.2; simp; omega
    · have := row_pos a hk.1; have := mem_rows_len hk.2 h; simp; omega
theorem mem_rows : ∀ {ts : List Tm} {t : Tm}, t ∈ ts → ∀ c ∈ t.row, c ∈ Tm.rows ts
  | [], t, h, _, _ => by simp at h
  | a :: ts, t, h, c, hc => by
    rw [Tm.rows]
    rcases List.mem_cons.1 h with rfl | h
    · exact List.mem_append_left _ hc
    · exact List.mem_append_right _ (mem_rows h c hc)

/-- A set that some letters of the row make. -/
def FromR (row : List UInt8) (s : Nat) : Prop := ∃ r : List UInt8, s = bitsU r ∧ r ≠ [] ∧ (∀ c ∈ r, isL c = true) ∧ ∀ c ∈ r, c ∈ row
theorem FromR.more {row row' : List UInt8} {s : Nat} (h : FromR row s) (hs : ∀ c ∈ row, c ∈ row') : FromR row' s := by
  obtain ⟨r, a, b, c, d⟩ := h
  exact ⟨r, a, b, c, fun x hx => hs x (d x hx)⟩
mutual
theorem sets_nodup : ∀ t : Tm, t.ok → t.row.Nodup → t.sets.Nodup ∧ ∀ s ∈ t.sets, FromR t.row s
  | .L c, _, _ => by simp [Tm.sets]
  | .S t, hk, hd => by
    rw [Tm.ok] at hk
    rw [Tm.row, (List.reverse_perm t.row).nodup_iff] at hd
    obtain ⟨a, b⟩ := sets_nodup t hk hd
    rw [Tm.sets, Tm.row]
    exact ⟨a, fun s hs => (b s hs).more fun c hc => by simpa using hc⟩
  | .B ts, hk, hd => by
    rw [Tm.ok] at hk
    rw [Tm.row] at hd
    obtain ⟨a, b⟩ := setss_nodup ts hk.2 hd
    have hL := rows_L ts hk.2
    rw [Tm.sets, Tm.row]
    have hpos := rows_pos ts hk.2
    refine ⟨List.nodup_cons.2 ⟨fun hm => ?_, a⟩, fun s hs => ?_⟩
    · obtain ⟨t, ht, r, e, hr, hrl, hrs⟩ := b _ hm
      have h1 : ∀ c ∈ Tm.rows ts, c ∈ t.row := fun c hc => hrs c (bitsU_sub hL hrl e c hc)
      have h2 := nodup_sub _ _ hd h1
      have h3 := mem_rows_len hk.2 ht
      omega
    · rcases List.mem_cons.1 hs with rfl | hs
      · exact ⟨Tm.rows ts, rfl, fun e => by
          have h2 := hk.1
          rw [e] at hpos
          exact absurd (show ts.length ≤ 0 from hpos) (by omega), hL, fun c hc => hc⟩
      · obtain ⟨t, ht, hf⟩ := b s hs
        exact hf.more (mem_rows ht)
theorem setss_nodup : ∀ ts : List Tm, Tm.oks ts → (Tm.rows ts).Nodup → (Tm.setss ts).Nodup ∧ ∀ s ∈ Tm.setss ts, ∃ t ∈ ts, FromR t.row s
  | [], _, _ => by simp [Tm.setss]
  | t :: ts, hk, hd => by
    rw [Tm.oks] at hk
    rw [Tm.rows, List.nodup_append] at hd
    obtain ⟨a, b⟩ := sets_nodup t hk.1 hd.1
    obtain ⟨a', b'⟩ := setss_nodup ts hk.2 hd.2.1
    rw [Tm.setss]
    refine ⟨List.nodup_append.2 ⟨a, a', fun s hs s' hs' e => ?_⟩, fun s hs => ?_⟩
    · subst e
      obtain ⟨r, e, hr, hrl, hrs⟩ := b s hs
      obtain ⟨u, hu, r', e', hr', hrl', hrs'⟩ := b' s hs'
      obtain ⟨c, hc⟩ := List.exists_mem_of_ne_nil r hr
      exact hd.2.2 c (hrs c hc) c (mem_rows hu c (hrs' c (bitsU_sub hrl hrl' (e.symm.trans e') c hc))) rfl
    · rcases List.mem_append.1 hs with hs | hs
      · exact ⟨t, by simp, b s hs⟩
      · obtain ⟨u, hu, hf⟩ := b' s hs
        exact ⟨u, by simp [hu], hf⟩
end
theorem maskN_lt (n : Nat) (l : List Int) (h : ∀ x ∈ l, 0 ≤ x ∧ x < n) : maskN l < 2 ^ n := by
  apply Nat.lt_pow_two_of_testBit
  intro j hj
  have := mask_bit l (fun x hx => (h x hx).1) j 0
  rw [show l.foldl (fun s x => s ||| 2 ^ x.toNat) 0 = maskN l from rfl] at this
  rw [this]
  simp
  intro hm
  have := h _ hm
  omega
theorem bitsU_pos {r : List UInt8} (h : ∀ c ∈ r, isL c = true) (hr : r ≠ []) : 0 < bitsU r := by
  obtain ⟨c, hc⟩ := List.exists_mem_of_ne_nil r hr
  rcases Nat.eq_zero_or_pos (bitsU r) with e | e
  · have := (bitsU_mem h (h c hc)).2 hc
    rw [e] at this; simp at this
  · exact e
/-- Every set of a ring term lies between nothing and all. -/
theorem sets_in {t : Tm} (hk : t.ok) (hT : Tell (ptsU t.row)) : t.sets.Nodup ∧ ∀ s ∈ t.sets, 0 < s ∧ s < 2 ^ t.row.length := by
  obtain ⟨h3, h7, hin, hd⟩ := hT
  obtain ⟨a, b⟩ := sets_nodup t hk (ptsU_nodup hd)
  refine ⟨a, fun s hs => ?_⟩
  obtain ⟨r, rfl, hr, hrl, hrs⟩ := b s hs
  refine ⟨bitsU_pos hrl hr, maskN_lt _ _ fun x hx => ?_⟩
  obtain ⟨c, hc, rfl⟩ := List.mem_map.1 hx
  have := hin _ (ptsU_mem.2 (hrs c hc))
  rw [ptsU_len] at this
  exact this

/-- The sets but that of all letters, in ascending order: what the model lists. -/
def Tm.arcs (t : Tm) : List Int := ((List.range (2 ^ t.row.length - 1)).filter fun s => decide (0 < s ∧ s ∈ t.sets)).map fun (s : Nat) => (s : Int)
theorem sorted_ext : ∀ {l m : List Int}, l.Pairwise (· < ·) → m.Pairwise (· < ·) → (∀ x, x ∈ l ↔ x ∈ m) → l = m
  | [], [], _, _, _ => rfl
  | [], b :: m, _, _, h => by have := (h b).2 (by simp); simp at this
  | a :: l, [], _, _, h => by have := (h a).1 (by simp); simp at this
  | a :: l, b :: m, hl, hm, h => by
    rw [List.pairwise_cons] at hl hm
    have hab : a = b := by
      have h1 := (h a).1 (by simp)
      have h2 := (h b).2 (by simp)
      rcases List.mem_cons.1 h1 with e | e
      · exact e
      · rcases List.mem_cons.1 h2 with e' | e'
        · exact e'.symm
        · have := hl.1 _ e'; have := hm.1 _ e; omega
    subst hab
    rw [sorted_ext hl.2 hm.2 fun x => ?_]
    constructor
    · intro hx
      rcases List.mem_cons.1 ((h x).1 (by simp [hx])) with e | e
      · have := hl.1 x hx; omega
      · exact e
    · intro hx
      rcases List.mem_cons.1 ((h x).2 (by simp [hx])) with e | e
      · have := hm.1 x hx; omega
      · exact e
theorem arcs_sorted (t : Tm) : t.arcs.Pairwise (· < ·) := by
  unfold Tm.arcs
  rw [List.pairwise_map]
  refine (List.Pairwise.filter _ List.pairwise_lt_range).imp fun h => by omega
theorem arcs_mem (t : Tm) (x : Int) : x ∈ t.arcs ↔ ∃ s : Nat, x = s ∧ 0 < s ∧ s < 2 ^ t.row.length - 1 ∧ s ∈ t.sets := by
  unfold Tm.arcs
  simp only [List.mem_map, List.mem_filter, List.mem_range, decide_eq_true_eq]
  constructor
  · rintro ⟨s, ⟨h1, h2, h3⟩, rfl⟩; exact ⟨s, rfl, h2, h1, h3⟩
  · rintro ⟨s, rfl, h2, h1, h3⟩; exact ⟨s, ⟨h1, h2, h3⟩, rfl⟩
/-- What the program makes of the sets, put in order. -/
theorem arcs_of {t : Tm} (hk : t.ok) (hT : Tell (ptsU t.row)) {l : List Int} (hs : l.Pairwise (· ≤ ·))
    (hp : l.Perm ((t.sets.map fun (s : Nat) => (s : Int)).filter fun x => !(x == ((2 ^ t.row.length - 1 : Nat) : Int)))) : l = t.arcs := by
  obtain ⟨hd, hin⟩ := sets_in hk hT
  have hn : l.Nodup := by
    rw [hp.nodup_iff, List.nodup_iff_pairwise_ne]
    refine List.Pairwise.filter _ ?_
    rw [List.pairwise_map]
    rw [List.nodup_iff_pairwise_ne] at hd
    exact hd.imp fun h e => h (by omega)
  refine sorted_ext ?_ (arcs_sorted t) fun x => ?_
  · rw [List.nodup_iff_pairwise_ne] at hn
    exact (hs.and hn).imp fun ⟨a, b⟩ => by omega
  · rw [hp.mem_iff, List.mem_filter, List.mem_map, arcs_mem]
    constructor
    · rintro ⟨⟨s, h1, rfl⟩, h2⟩
      have := hin s h1
      simp at h2
      exact ⟨s, rfl, this.1, by omega, h1⟩
    · rintro ⟨s, rfl, h1, h2, h3⟩
      exact ⟨⟨s, h3, rfl⟩, by simp; omega⟩
end Go.Proofs.YtehadbpbkenccaaGreatDoor
