/- Rings that share all arcs are the same, but for going back. -/
import Derived.Test.YtamnacgclhaggabArQ
import Derived.Test.YtamnacgclhaggabArB
import Derived.Test.YtamnacgclhaggabPqS
namespace Go.Proofs.Ytamnacgclhaggab
open Go.ChangeShapes Go.WideShapes Go.ChangeAt Go.RowKit

/-- Whether k and m lie on the same side of i and j. -/
def sideB (i j k m : Nat) : Bool := cyc i k j == cyc i m j
def hasB4 (t i j k m : Nat) : Bool := t.testBit i && t.testBit j && !t.testBit k && !t.testBit m
def keyA (n : Nat) : Bool := (List.range n).all fun i => (List.range n).all fun j => Nat.beq i j || (List.range n).all fun k => Nat.beq i k || Nat.beq j k || (List.range n).all fun m => Nat.beq i m || Nat.beq j m || Nat.beq k m || !sideB i j k m || (List.range (2 ^ n)).any fun t => hasB4 t i j k m && Nat.beq (cntB n t) 1
def keyB (n : Nat) : Bool := (List.range (2 ^ n)).all fun t => !Nat.beq (cntB n t) 1 || (List.range n).all fun i => !t.testBit i || (List.range n).all fun j => !t.testBit j || Nat.beq i j || (List.range n).all fun k => t.testBit k || (List.range n).all fun m => t.testBit m || Nat.beq k m || sideB i j k m
set_option maxRecDepth 100000 in
theorem keyA_all : keyA 4 = true ∧ keyA 5 = true ∧ keyA 6 = true ∧ keyA 7 = true := by decide +kernel
set_option maxRecDepth 100000 in
theorem keyB_all : keyB 4 = true ∧ keyB 5 = true ∧ keyB 6 = true ∧ keyB 7 = true := by decide +kernel
theorem keyA_at {n : Nat} (h4 : 4 ≤ n) (h7 : n ≤ 7) {i j k m : Nat} (hi : i < n) (hj : j < n) (hk : k < n) (hm : m < n) (h1 : i ≠ j) (h2 : i ≠ k) (h3 : i ≠ m) (h5 : j ≠ k) (h6 : j ≠ m) (h8 : k ≠ m) (hs : sideB i j k m = true) : ∃ t, t < 2 ^ n ∧ hasB4 t i j k m = true ∧ cntB n t = 1 := by
  have hA : keyA n = true := by
    obtain rfl | rfl | rfl | rfl : n = 4 ∨ n = 5 ∨ n = 6 ∨ n = 7 := by omega
    · exact keyA_all.1
    · exact keyA_all.2.1
    · exact keyA_all.2.2.1
    · exact keyA_all.2.2.2
  unfold keyA at hA
  simp only [List.all_eq_true, List.mem_range, Bool.or_eq_true, List.any_eq_true, Bool.and_eq_true, Nat.beq_eq] at hA
  have := hA i hi j hj
  simp only [h1, false_or] at this
  have := this k hk
  simp only [h2, h5, false_or] at this
  have := this m hm
  simp only [h3, h6, h8, hs, false_or, Bool.not_true, Bool.false_eq_true] at this
  exact this
theorem keyB_at {n : Nat} (h4 : 4 ≤ n) (h7 : n ≤ 7) {t i j k m : Nat} (ht : t < 2 ^ n) (hc : cntB n t = 1) (hi : i < n) (hj : j < n) (hk : k < n) (hm : m < n) (h1 : i ≠ j) (h8 : k ≠ m) (hs : hasB4 t i j k m = true) : sideB i j k m = true := by
  have hB : keyB n = true := by
    obtain rfl | rfl | rfl | rfl : n = 4 ∨ n = 5 ∨ n = 6 ∨ n = 7 := by omega
    · exact keyB_all.1
    · exact keyB_all.2.1
    · exact keyB_all.2.2.1
    · exact keyB_all.2.2.2
  simp only [hasB4, Bool.and_eq_true, Bool.not_eq_true'] at hs
  obtain ⟨⟨⟨b1, b2⟩, b3⟩, b4⟩ := hs
  unfold keyB at hB
  simp only [List.all_eq_true, List.mem_range, Bool.or_eq_true, Bool.not_eq_true', Nat.beq_eq] at hB
  rcases hB t ht with h | h
  · exact absurd hc (Nat.ne_of_beq_eq_false h)
  rcases h i hi with h | h
  · rw [b1] at h; cases h
  rcases h j hj with (h | h) | h
  · rw [b2] at h; cases h
  · exact absurd h h1
  rcases h k hk with h | h
  · rw [b3] at h; cases h
  rcases h m hm with (h | h) | h
  · rw [b4] at h; cases h
  · exact absurd h h8
  · exact h
section
variable {l r : List Int}
theorem isA_cnt (l : List Int) (s : Nat) : isA l s = decide (cntB l.length (bitsL (hasN s) l) = 1) := by rw [isA, runN_bits]
theorem isA_full (hr : Ring l) : isA l (2 ^ l.length - 1) = false := by
  have h7 := hr.1.2.1
  obtain ⟨k1, k2⟩ := count_key ⟨l.length, by omega⟩ hr.1.1
  rw [isA_cnt, bits_full hr]
  simp only at k2
  rw [k2]; rfl
theorem isA_back (hr : Ring l) (s : Nat) : isA (backL l) s = isA l s := by
  unfold isA
  rw [run_back hr.1.2.1]
theorem bit_at (p : Int → Bool) {x : Int} (hx : x ∈ l) : (bitsL p l).testBit (l.idxOf x) = p x := by
  rw [bitsL_bit p l _ (List.idxOf_lt_length_of_mem hx)]
  have hi := List.idxOf_lt_length_of_mem hx
  have := List.getElem_idxOf hi
  simp [List.getD, hi, this]
theorem part_side {x y z u : Int} (f : F4 l x y z u) : partB l [x, y, z, u] = !sideB (l.idxOf x) (l.idxOf y) (l.idxOf z) (l.idxOf u) := by
  rw [part_cyc f]; rfl
/-- What all arcs of l being arcs of r says of partings. -/
theorem arc_side (hl : Ring l) (_ : Ring r) (hn : l.length = r.length) (h4 : 4 ≤ l.length) (ha : ∀ s, s < 2 ^ l.length - 1 → isA l s = true → isA r s = true) {x y z u : Int} (f : F4 l x y z u) (g : F4 r x y z u) (hp : partB l [x, y, z, u] = false) : partB r [x, y, z, u] = false := by
  have h7 := hl.1.2.1
  obtain ⟨p1, p2, p3, p4', p5, p6, p7, p8, p9, p10⟩ := f.places
  obtain ⟨q1, q2, q3, q4, q5, q6, q7, q8, q9, q10⟩ := g.places
  rw [part_side f] at hp
  rw [part_side g]
  obtain ⟨t, ht, hb, hc⟩ := keyA_at h4 h7 p7 p8 p9 p10 p1 p2 p3 p4' p5 p6 (by simpa using hp)
  obtain ⟨s1, s2⟩ := setAt_bits hl ht
  generalize setAt l t = s at *
  have hA : isA l s = true := by rw [isA_cnt, s2, decide_eq_true_eq]; exact hc
  have hlt : s < 2 ^ l.length - 1 := by
    rcases Nat.lt_or_ge s (2 ^ l.length - 1) with h | h
    · exact h
    · have e : s = 2 ^ l.length - 1 := by omega
      rw [e, isA_full hl] at hA
      cases hA
  have hR := ha s hlt hA
  rw [isA_cnt, decide_eq_true_eq] at hR
  have hb' : hasB4 (bitsL (hasN s) r) (r.idxOf x) (r.idxOf y) (r.idxOf z) (r.idxOf u) = true := by
    unfold hasB4 at hb ⊢
    rw [bit_at _ g.mx, bit_at _ g.my, bit_at _ g.mz, bit_at _ g.mu]
    rw [← s2, bit_at _ f.mx, bit_at _ f.my, bit_at _ f.mz, bit_at _ f.mu] at hb
    exact hb
  rw [keyB_at (n := r.length) (by omega) (by omega) (bitsL_lt _ r) hR q7 q8 q9 q10 q1 q6 hb']
  rfl
theorem arc_pe (hl : Ring l) (hr : Ring r) (hn : l.length = r.length) (h4 : 4 ≤ l.length) (ha : ∀ s, s < 2 ^ l.length - 1 → isA l s = true → isA r s = true) : PE l r := fun a b c d xa xb xc xd h1 h2 h3 h5 h6 h8 => by
  have f := f4_of hl.1 xa xb xc xd h1 h2 h3 h5 h6 h8
  have g := f4_of hr.1 (a := a) (b := b) (c := c) (d := d) (by omega) (by omega) (by omega) (by omega) h1 h2 h3 h5 h6 h8
  unfold pe
  cases hp : partB l [(a : Int), b, c, d] with
  | false => exact (arc_side hl hr hn h4 ha f g hp).symm
  | true =>
    have e1 := arc_side hl hr hn h4 ha f.cross g.cross (part_cross f hp)
    have hp2 : partB l [(a : Int), b, d, c] = true := by rw [part_flip2 f, hp]
    have e2 := arc_side hl hr hn h4 ha f.flip2.cross g.flip2.cross (part_cross f.flip2 hp2)
    rcases part_some g with h | h | h
    · exact h.symm
    · rw [e1] at h; cases h
    · rw [e2] at h; cases h
theorem com_filter (l r : List Int) : comA l r = (allA l).filter fun x => isA r x.toNat := by
  unfold comA allA
  rw [arcs_filter]
/-- All that FnCommon asks of the maths. -/
theorem com_full (hl : Ring l) (hr : Ring r) (hn : l.length = r.length) (h4 : 4 ≤ l.length) : (comA l r).length = l.length * (l.length - 1) ↔ (l = r ∨ backL l = r) := by
  constructor
  · intro h
    refine par_same' hl hr hn (arc_pe hl hr hn h4 fun s hs hA => ?_)
    rw [com_filter, ← all_count hl] at h
    have hx : (s : Int) ∈ allA l := by
      simp only [allA, arcsTo, List.mem_map, List.mem_filter, List.mem_range]
      exact ⟨s, ⟨hs, hA⟩, rfl⟩
    have := List.length_filter_eq_length_iff.1 h _ hx
    simpa using this
  · rintro (rfl | rfl)
    · rw [comA_self]; exact all_count hl
    · have e : comA l (backL l) = allA l := by
        rw [com_filter, List.filter_eq_self]
        intro x hx
        rw [isA_back hl]
        simp only [allA, arcsTo, List.mem_map, List.mem_filter, List.mem_range] at hx
        obtain ⟨s, ⟨_, hA⟩, rfl⟩ := hx
        simpa using hA
      rw [e]; exact all_count hl
theorem com_swap (hn : l.length = r.length) : comA r l = comA l r := by
  unfold comA
  rw [hn]
  congr 1
  funext s
  exact Bool.and_comm _ _
end
end Go.Proofs.Ytamnacgclhaggab
