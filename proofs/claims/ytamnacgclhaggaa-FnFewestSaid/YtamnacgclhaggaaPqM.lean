/- Maths of partings: by places on the ring. -/
import Derived.Test.YtamnacgclhaggaaThreeM
import Derived.Test.YtamnacgclhaggaaPartT
namespace Go.Proofs.Ytamnacgclhaggaa
open Go.ChangeShapes Go.WideShapes Go.ChangeAt Go.RowKit

/-- Three places go round in this order. -/
def cyc (i j k : Nat) : Bool := decide ((i < j ∧ j < k) ∨ (j < k ∧ k < i) ∨ (k < i ∧ i < j))
theorem has3_cyc {l : List Int} {x y z : Int} (hx : x ∈ l) (hy : y ∈ l) (hz : z ∈ l) (h1 : x ≠ y) (h2 : y ≠ z) (h3 : x ≠ z) : has3 l [x, y, z] = cyc (l.idxOf x) (l.idxOf y) (l.idxOf z) := by
  have a1 := List.idxOf_lt_length_of_mem hx
  have a2 := List.idxOf_lt_length_of_mem hy
  have a3 := List.idxOf_lt_length_of_mem hz
  have b1 := idx_apart hx hy h1
  have b2 := idx_apart hy hz h2
  have b3 := idx_apart hx hz h3
  unfold has3 stepsI cyc
  simp only [List.getD_cons_zero, List.getD_cons_succ]
  rw [decide_eq_decide]
  generalize l.idxOf x = i at *
  generalize l.idxOf y = j at *
  generalize l.idxOf z = k at *
  rw [emod_sub (by omega) (by omega) (by omega) (by omega), emod_sub (by omega) (by omega) (by omega) (by omega)]
  split <;> split <;> omega
theorem cyc_not {i j k : Nat} (h1 : i ≠ j) (h2 : j ≠ k) (h3 : i ≠ k) : cyc i k j = !cyc i j k := by
  rw [Bool.eq_iff_iff, Bool.not_eq_true', cyc, cyc, decide_eq_true_eq, decide_eq_false_iff_not]
  omega
theorem bne_iff (a b : Bool) : ((a != b) = true) ↔ ¬ (a = true ↔ b = true) := by cases a <;> cases b <;> simp
theorem cyc_iff {i j k : Nat} : cyc i j k = true ↔ (i < j ∧ j < k) ∨ (j < k ∧ k < i) ∨ (k < i ∧ i < j) := by simp [cyc]
/-- Four different points of a ring. -/
structure F4 (l : List Int) (x y z u : Int) : Prop where
  mx : x ∈ l
  my : y ∈ l
  mz : z ∈ l
  mu : u ∈ l
  xy : x ≠ y
  xz : x ≠ z
  xu : x ≠ u
  yz : y ≠ z
  yu : y ≠ u
  zu : z ≠ u
section
variable {l : List Int} {x y z u : Int}
theorem F4.swap (h : F4 l x y z u) : F4 l z u x y := ⟨h.mz, h.mu, h.mx, h.my, h.zu, h.xz.symm, h.yz.symm, h.xu.symm, h.yu.symm, h.xy⟩
theorem F4.cross (h : F4 l x y z u) : F4 l x z y u := ⟨h.mx, h.mz, h.my, h.mu, h.xz, h.xy, h.xu, h.yz.symm, h.zu, h.yu⟩
theorem F4.flip1 (h : F4 l x y z u) : F4 l y x z u := ⟨h.my, h.mx, h.mz, h.mu, h.xy.symm, h.yz, h.yu, h.xz, h.xu, h.zu⟩
theorem F4.flip2 (h : F4 l x y z u) : F4 l x y u z := ⟨h.mx, h.my, h.mu, h.mz, h.xy, h.xu, h.xz, h.yu, h.yz, h.zu.symm⟩
theorem part_cyc (h : F4 l x y z u) : partB l [x, y, z, u] = (cyc (l.idxOf x) (l.idxOf z) (l.idxOf y) != cyc (l.idxOf x) (l.idxOf u) (l.idxOf y)) := by
  unfold partB
  simp only [List.getD_cons_zero, List.getD_cons_succ]
  rw [has3_cyc h.mx h.mz h.my h.xz h.yz.symm h.xy, has3_cyc h.mx h.mu h.my h.xu h.yu.symm h.xy]
theorem F4.places (h : F4 l x y z u) : l.idxOf x ≠ l.idxOf y ∧ l.idxOf x ≠ l.idxOf z ∧ l.idxOf x ≠ l.idxOf u ∧ l.idxOf y ≠ l.idxOf z ∧ l.idxOf y ≠ l.idxOf u ∧ l.idxOf z ≠ l.idxOf u ∧ l.idxOf x < l.length ∧ l.idxOf y < l.length ∧ l.idxOf z < l.length ∧ l.idxOf u < l.length :=
  ⟨idx_apart h.mx h.my h.xy, idx_apart h.mx h.mz h.xz, idx_apart h.mx h.mu h.xu, idx_apart h.my h.mz h.yz, idx_apart h.my h.mu h.yu, idx_apart h.mz h.mu h.zu, List.idxOf_lt_length_of_mem h.mx, List.idxOf_lt_length_of_mem h.my, List.idxOf_lt_length_of_mem h.mz, List.idxOf_lt_length_of_mem h.mu⟩
theorem part_swap (h : F4 l x y z u) : partB l [z, u, x, y] = partB l [x, y, z, u] := by
  obtain ⟨h1, h2, h3, h4, h5, h6, _⟩ := h.places
  rw [part_cyc h, part_cyc h.swap, Bool.eq_iff_iff, bne_iff, bne_iff, cyc_iff, cyc_iff, cyc_iff, cyc_iff]
  omega
theorem part_flip1 (h : F4 l x y z u) : partB l [y, x, z, u] = partB l [x, y, z, u] := by
  obtain ⟨h1, h2, h3, h4, h5, h6, _⟩ := h.places
  rw [part_cyc h, part_cyc h.flip1, Bool.eq_iff_iff, bne_iff, bne_iff, cyc_iff, cyc_iff, cyc_iff, cyc_iff]
  omega
theorem part_flip2 (h : F4 l x y z u) : partB l [x, y, u, z] = partB l [x, y, z, u] := by
  rw [part_cyc h, part_cyc h.flip2]
  cases cyc (l.idxOf x) (l.idxOf z) (l.idxOf y) <;> cases cyc (l.idxOf x) (l.idxOf u) (l.idxOf y) <;> rfl
theorem part_cross (h : F4 l x y z u) (hp : partB l [x, y, z, u] = true) : partB l [x, z, y, u] = false := by
  obtain ⟨h1, h2, h3, h4, h5, h6, _⟩ := h.places
  rw [part_cyc h, bne_iff, cyc_iff, cyc_iff] at hp
  rw [part_cyc h.cross, ← Bool.not_eq_true, bne_iff, cyc_iff, cyc_iff]
  omega
/-- Each four points part one way of three. -/
theorem part_some (h : F4 l x y z u) : partB l [x, y, z, u] = true ∨ partB l [x, z, y, u] = true ∨ partB l [x, u, y, z] = true := by
  obtain ⟨h1, h2, h3, h4, h5, h6, _⟩ := h.places
  have e1 := cyc_not h1 h4 h2
  have e2 := cyc_not h1 h5 h3
  have e3 := cyc_not h2 h6 h3
  rw [part_cyc h, part_cyc h.cross, part_cyc h.flip2.cross, e1, e2, e3]
  cases cyc (l.idxOf x) (l.idxOf y) (l.idxOf z) <;> cases cyc (l.idxOf x) (l.idxOf y) (l.idxOf u) <;> cases cyc (l.idxOf x) (l.idxOf z) (l.idxOf u) <;> simp
theorem has3_bck (hn : l.Nodup) (hx : x ∈ l) (hy : y ∈ l) (hz : z ∈ l) (h1 : x ≠ y) (h2 : y ≠ z) (h3 : x ≠ z) : has3 (backL l) [x, y, z] = !has3 l [x, y, z] := by
  have a := has3_cyc hx hy hz h1 h2 h3
  have b := has3_cyc hx hz hy h3 h2.symm h1
  have c := cyc_not (idx_apart hx hy h1) (idx_apart hy hz h2) (idx_apart hx hz h3)
  cases e : has3 l [x, y, z] with
  | true =>
    have := has3_back hn hx hy hz h1 h2 h3 e
    have := has3_not this
    rw [this]; rfl
  | false =>
    have e2 : has3 l [x, z, y] = true := by rw [b, c, ← a, e]; rfl
    have := has3_back hn hx hz hy h3 h2.symm h1 e2
    rw [this]; rfl
theorem part_back (hn : l.Nodup) (h : F4 l x y z u) : partB (backL l) [x, y, z, u] = partB l [x, y, z, u] := by
  unfold partB
  simp only [List.getD_cons_zero, List.getD_cons_succ]
  rw [has3_bck hn h.mx h.mz h.my h.xz h.yz.symm h.xy, has3_bck hn h.mx h.mu h.my h.xu h.yu.symm h.xy]
  cases has3 l [x, z, y] <;> cases has3 l [x, u, y] <;> rfl
end
theorem four4 (n x y z u : Int) : Four n [x, y, z, u] ↔ (0 ≤ x ∧ x < n) ∧ (0 ≤ y ∧ y < n) ∧ (0 ≤ z ∧ z < n) ∧ (0 ≤ u ∧ u < n) ∧ x ≠ y ∧ x ≠ z ∧ x ≠ u ∧ y ≠ z ∧ y ≠ u ∧ z ≠ u := by
  unfold Four Pts
  simp only [List.mem_cons, List.not_mem_nil, or_false, List.nodup_cons, List.nodup_nil, and_true, forall_eq_or_imp, forall_eq, List.length_cons, List.length_nil]
  constructor
  · rintro ⟨_, h1, h2⟩
    simp at h2
    omega
  · intro h
    simp
    omega
theorem four_f4 {l t : List Int} (h : Tell l) (ht : Four l.length t) : ∃ x y z u, t = [x, y, z, u] ∧ F4 l x y z u := by
  obtain ⟨x, y, z, u, rfl, m1, m2, m3, m4⟩ := four_mem h ht
  rw [four4] at ht
  exact ⟨x, y, z, u, rfl, m1, m2, m3, m4, ht.2.2.2.2.1, ht.2.2.2.2.2.1, ht.2.2.2.2.2.2.1, ht.2.2.2.2.2.2.2.1, ht.2.2.2.2.2.2.2.2.1, ht.2.2.2.2.2.2.2.2.2⟩
theorem four_of {l : List Int} {x y z u : Int} (h : Tell l) (f : F4 l x y z u) : four l.length [x, y, z, u] = true := by
  refine (four_yes ((four4 _ _ _ _ _).2 ?_)).1
  have hb := h.2.2.1
  have a := hb x f.mx
  have b := hb y f.my
  have c := hb z f.mz
  have d := hb u f.mu
  exact ⟨⟨a.1, by omega⟩, ⟨b.1, by omega⟩, ⟨c.1, by omega⟩, ⟨d.1, by omega⟩, f.xy, f.xz, f.xu, f.yz, f.yu, f.zu⟩
theorem prt_told {l t : List Int} (h : prtB l t = true) : Ring l ∧ ∃ x y z u, t = [x, y, z, u] ∧ F4 l x y z u ∧ partB l [x, y, z, u] = true := by
  unfold prtB at h
  simp only [Bool.and_eq_true] at h
  obtain ⟨⟨h1, h2⟩, h3⟩ := h
  have hr : Ring l := by simpa [ringB] using h1
  have h4 : Four (l.length : Int) t := by simpa [four] using h2
  obtain ⟨x, y, z, u, rfl, f⟩ := four_f4 hr.1 h4
  exact ⟨hr, x, y, z, u, rfl, f, h3⟩
theorem prt_of {l : List Int} {x y z u : Int} (hr : Ring l) (f : F4 l x y z u) : prtB l [x, y, z, u] = partB l [x, y, z, u] := by
  unfold prtB
  rw [ring_yes hr, four_of hr.1 f]
  simp
theorem f4_back {l : List Int} {x y z u : Int} (f : F4 l x y z u) : F4 (backL l) x y z u := ⟨backL_mem f.mx, backL_mem f.my, backL_mem f.mz, backL_mem f.mu, f.xy, f.xz, f.xu, f.yz, f.yu, f.zu⟩
end Go.Proofs.Ytamnacgclhaggaa
