/- The partings of a ring say which ring it is, but for going back. -/
import Derived.Test.YtamnacgclhaggabPqC
import Derived.Test.YtamnacgclhaggabSdM
namespace Go.Proofs.Ytamnacgclhaggab
open Go.ChangeShapes Go.WideShapes Go.ChangeAt Go.RowKit

theorem qL_inj {q q' : Quad} (h : qL q = qL q') : q = q' := by
  obtain ⟨a, b, c, d⟩ := q
  obtain ⟨a', b', c', d'⟩ := q'
  simp only [qL, p4, List.cons.injEq, and_true] at h
  obtain ⟨h1, h2, h3, h4⟩ := h
  obtain rfl : a = a' := by omega
  obtain rfl : b = b' := by omega
  obtain rfl : c = c' := by omega
  obtain rfl : d = d' := by omega
  rfl
theorem quads_mem {n a b c d : Nat} (h1 : a < b) (h2 : b < n) (h3 : a < c) (h4 : c < d) (h5 : d < n) : (a, b, c, d) ∈ quadsN n := by
  have up : ∀ {x y z : Nat}, x < y → y < z → y ∈ upto x z := fun {x y z} h1 h2 => by
    unfold upto
    rw [List.mem_range'_1]
    omega
  unfold quadsN
  rw [List.mem_flatMap]
  refine ⟨a, List.mem_range.2 (by omega), ?_⟩
  rw [List.mem_flatMap]
  refine ⟨b, up h1 h2, ?_⟩
  rw [List.mem_flatMap]
  refine ⟨c, up h3 (by omega), ?_⟩
  rw [List.mem_map]
  exact ⟨d, up h4 h5, rfl⟩
theorem goodQ_of {a b c d : Nat} (h1 : b ≠ c) (h2 : b ≠ d) : goodQ (a, b, c, d) = true := by
  simp [goodQ, beq_no h1, beq_no h2]
section
variable {l m : List Int}
theorem par_base (hl : Ring l) (hm : Ring m) (hn : l.length = m.length) (e : allP l = allP m) {a b c d : Nat} (h1 : a < b) (h2 : b < l.length) (h3 : a < c) (h4 : c < d) (h5 : d < l.length) (h6 : b ≠ c) (h7 : b ≠ d) :
    partB l [(a : Int), b, c, d] = partB m [(a : Int), b, c, d] := by
  have key : ∀ {r s : List Int}, Ring r → Ring s → r.length = l.length → allP r = allP s → partB r [(a : Int), b, c, d] = true → r.length = s.length → partB s [(a : Int), b, c, d] = true := fun {r s} hr hs hrl e hp hrs => by
    have hq : (a, b, c, d) ∈ (quadsN r.length).filter (parW r) := by
      rw [List.mem_filter]
      refine ⟨quads_mem h1 (by omega) h3 h4 (by omega), ?_⟩
      rw [parW, goodQ_of h6 h7]
      exact hp
    have hx : qL (a, b, c, d) ∈ allP r := by rw [allP_quads hr]; exact List.mem_map_of_mem hq
    rw [e, allP_quads hs, List.mem_map] at hx
    obtain ⟨q', hq', eq⟩ := hx
    obtain rfl := qL_inj eq
    have := (List.mem_filter.1 hq').2
    rw [parW, Bool.and_eq_true] at this
    exact this.2
  rw [Bool.eq_iff_iff]
  exact ⟨fun h => key hl hm rfl e h hn, fun h => key hm hl hn.symm e.symm h hn.symm⟩
/-- The same parting of two rings. -/
def pe (l m : List Int) (a b c d : Nat) : Prop := partB l [(a : Int), b, c, d] = partB m [(a : Int), b, c, d]
theorem par_all (hl : Ring l) (hm : Ring m) (hn : l.length = m.length) (e : allP l = allP m) {a b c d : Nat} (ha : a < l.length) (hb : b < l.length) (hc : c < l.length) (hd : d < l.length) (h1 : a ≠ b) (h2 : a ≠ c) (h3 : a ≠ d) (h4 : b ≠ c) (h5 : b ≠ d) (h6 : c ≠ d) : pe l m a b c d := by
  have t0 : ∀ {a b c d : Nat}, a < b → c < d → a < c → b < l.length → d < l.length → b ≠ c → b ≠ d → pe l m a b c d := fun g1 g2 g3 hb hd h4 h5 => par_base hl hm hn e g1 hb g3 g2 hd h4 h5
  have t1 : ∀ {a b c d : Nat}, a < b → c < d → b < l.length → d < l.length → a ≠ c → a ≠ d → b ≠ c → b ≠ d → pe l m a b c d := fun {a b c d} g1 g2 hb hd h2 h3 h4 h5 => by
    rcases Nat.lt_or_ge a c with h | h
    · exact t0 g1 g2 h hb hd h4 h5
    · have := t0 (a := c) (b := d) (c := a) (d := b) g2 g1 (by omega) hd hb (Ne.symm h3) (Ne.symm h5)
      unfold pe at this ⊢
      rw [← part_swap (f4_of hl.1 (by omega) hb (by omega) hd (by omega) h2 h3 h4 h5 (by omega)), ← part_swap (f4_of hm.1 (by omega) (by omega) (by omega) (by omega) (by omega) h2 h3 h4 h5 (by omega))]
      exact this
  have t2 : ∀ {a b c d : Nat}, a < b → b < l.length → c < l.length → d < l.length → a ≠ c → a ≠ d → b ≠ c → b ≠ d → c ≠ d → pe l m a b c d := fun {a b c d} g1 hb hc hd h2 h3 h4 h5 h6 => by
    rcases Nat.lt_or_ge c d with h | h
    · exact t1 g1 h hb hd h2 h3 h4 h5
    · have := t1 (a := a) (b := b) (c := d) (d := c) g1 (by omega) hb hc h3 h2 h5 h4
      unfold pe at this ⊢
      rw [← part_flip2 (f4_of hl.1 (by omega) hb hc hd (by omega) h2 h3 h4 h5 h6), ← part_flip2 (f4_of hm.1 (by omega) (by omega) (by omega) (by omega) (by omega) h2 h3 h4 h5 h6)]
      exact this
  rcases Nat.lt_or_ge a b with h | h
  · exact t2 h hb hc hd h2 h3 h4 h5 h6
  · have := t2 (a := b) (b := a) (c := c) (d := d) (by omega) ha hc hd h4 h5 h2 h3 h6
    unfold pe at this ⊢
    rw [← part_flip1 (f4_of hl.1 ha hb hc hd h1 h2 h3 h4 h5 h6), ← part_flip1 (f4_of hm.1 (by omega) (by omega) (by omega) (by omega) h1 h2 h3 h4 h5 h6)]
    exact this
/-- Where two rings differ on a three. -/
def dd (l m : List Int) (a b c : Nat) : Bool := has3 l [(a : Int), b, c] != has3 m [(a : Int), b, c]
theorem h3_flip {r : List Int} (hr : Ring r) {a b c : Nat} (ha : a < r.length) (hb : b < r.length) (hc : c < r.length) (h1 : a ≠ b) (h2 : b ≠ c) (h3 : a ≠ c) : has3 r [(a : Int), c, b] = !has3 r [(a : Int), b, c] := by
  rw [has3_cyc (pt_in hr.1 ha) (pt_in hr.1 hc) (pt_in hr.1 hb) (by omega) (by omega) (by omega), has3_cyc (pt_in hr.1 ha) (pt_in hr.1 hb) (pt_in hr.1 hc) (by omega) (by omega) (by omega)]
  exact cyc_not (idx_apart (pt_in hr.1 ha) (pt_in hr.1 hb) (by omega)) (idx_apart (pt_in hr.1 hb) (pt_in hr.1 hc) (by omega)) (idx_apart (pt_in hr.1 ha) (pt_in hr.1 hc) (by omega))
theorem h3_turn {r : List Int} (hr : Ring r) {a b c : Nat} (ha : a < r.length) (hb : b < r.length) (hc : c < r.length) (h1 : a ≠ b) (h2 : b ≠ c) (h3 : a ≠ c) : has3 r [(b : Int), c, a] = has3 r [(a : Int), b, c] := by
  rw [has3_cyc (pt_in hr.1 hb) (pt_in hr.1 hc) (pt_in hr.1 ha) (by omega) (by omega) (by omega), has3_cyc (pt_in hr.1 ha) (pt_in hr.1 hb) (pt_in hr.1 hc) (by omega) (by omega) (by omega), Bool.eq_iff_iff, cyc_iff, cyc_iff]
  omega
theorem dd_flip (hl : Ring l) (hm : Ring m) (hn : l.length = m.length) {a b c : Nat} (ha : a < l.length) (hb : b < l.length) (hc : c < l.length) (h1 : a ≠ b) (h2 : b ≠ c) (h3 : a ≠ c) : dd l m a c b = dd l m a b c := by
  unfold dd
  rw [h3_flip hl ha hb hc h1 h2 h3, h3_flip hm (by omega) (by omega) (by omega) h1 h2 h3]
  cases has3 l [(a : Int), b, c] <;> cases has3 m [(a : Int), b, c] <;> rfl
theorem dd_turn (hl : Ring l) (hm : Ring m) (hn : l.length = m.length) {a b c : Nat} (ha : a < l.length) (hb : b < l.length) (hc : c < l.length) (h1 : a ≠ b) (h2 : b ≠ c) (h3 : a ≠ c) : dd l m b c a = dd l m a b c := by
  unfold dd
  rw [h3_turn hl ha hb hc h1 h2 h3, h3_turn hm (by omega) (by omega) (by omega) h1 h2 h3]
/-- All partings the same. -/
def PE (l m : List Int) : Prop := ∀ a b c d : Nat, a < l.length → b < l.length → c < l.length → d < l.length → a ≠ b → a ≠ c → a ≠ d → b ≠ c → b ≠ d → c ≠ d → pe l m a b c d
theorem dd_move (hl : Ring l) (hm : Ring m) (hn : l.length = m.length) (e : PE l m) {a b c d : Nat} (ha : a < l.length) (hb : b < l.length) (hc : c < l.length) (hd : d < l.length) (h1 : a ≠ b) (h2 : a ≠ c) (h3 : a ≠ d) (h4 : b ≠ c) (h5 : b ≠ d) : dd l m a b c = dd l m a b d := by
  by_cases h6 : c = d
  · rw [h6]
  have h := e a b c d ha hb hc hd h1 h2 h3 h4 h5 h6
  unfold pe partB at h
  simp only [List.getD_cons_zero, List.getD_cons_succ] at h
  rw [h3_flip hl ha hb hc h1 h4 h2, h3_flip hl ha hb hd h1 h5 h3, h3_flip hm (by omega) (by omega) (by omega) h1 h4 h2, h3_flip hm (by omega) (by omega) (by omega) h1 h5 h3] at h
  unfold dd
  revert h
  cases has3 l [(a : Int), b, c] <;> cases has3 m [(a : Int), b, c] <;> cases has3 l [(a : Int), b, d] <;> cases has3 m [(a : Int), b, d] <;> decide
theorem dd_all (hl : Ring l) (hm : Ring m) (hn : l.length = m.length) (e : PE l m) {a b c : Nat} (h1 : a < b) (h2 : b < c) (hc : c < l.length) : dd l m a b c = dd l m 0 1 2 := by
  have s1 : dd l m a b c = dd l m 0 b c := by
    by_cases h : a = 0
    · rw [h]
    · rw [← dd_turn hl hm hn (by omega) (by omega) hc (by omega) (by omega) (by omega), dd_move hl hm hn e (a := b) (b := c) (c := a) (d := 0) (by omega) hc (by omega) (by omega) (by omega) (by omega) (by omega) (by omega) (by omega)]
      exact dd_turn hl hm hn (by omega) (by omega) hc (by omega) (by omega) (by omega)
  have s2 : dd l m 0 b c = dd l m 0 1 c := by
    rw [← dd_flip hl hm hn (by omega) (by omega) hc (by omega) (by omega) (by omega), dd_move hl hm hn e (a := 0) (b := c) (c := b) (d := 1) (by omega) hc (by omega) (by omega) (by omega) (by omega) (by omega) (by omega) (by omega)]
    exact dd_flip hl hm hn (by omega) (by omega) hc (by omega) (by omega) (by omega)
  rw [s1, s2]
  exact dd_move hl hm hn e (by omega) (by omega) hc (by omega) (by omega) (by omega) (by omega) (by omega) (by omega)
/-- Rings with the same partings are the same, or one is the other back. -/
theorem par_same' (hl : Ring l) (hm : Ring m) (hn : l.length = m.length) (e : PE l m) : l = m ∨ backL l = m := by
  have hb := backL_ring hl
  have hbl := backL_length l
  cases hP : dd l m 0 1 2
  · refine .inl (ring_ext hl hm hn fun a b c h1 h2 h3 => ?_)
    have := dd_all hl hm hn e h1 h2 h3
    rw [hP] at this
    unfold dd at this
    simpa using this
  · refine .inr (ring_ext hb hm (by omega) fun a b c h1 h2 h3 => ?_)
    rw [hbl] at h3
    have := dd_all hl hm hn e h1 h2 h3
    rw [hP] at this
    unfold dd at this
    rw [has3_bck hl.1.2.2.2 (pt_in hl.1 (by omega)) (pt_in hl.1 (by omega)) (pt_in hl.1 h3) (by omega) (by omega) (by omega)]
    revert this
    cases has3 l [(a : Int), b, c] <;> cases has3 m [(a : Int), b, c] <;> decide
theorem par_same (hl : Ring l) (hm : Ring m) (hn : l.length = m.length) (e : allP l = allP m) : l = m ∨ backL l = m :=
  par_same' hl hm hn fun _ _ _ _ ha hb hc hd h1 h2 h3 h4 h5 h6 => par_all hl hm hn e ha hb hc hd h1 h2 h3 h4 h5 h6
end
end Go.Proofs.Ytamnacgclhaggab
