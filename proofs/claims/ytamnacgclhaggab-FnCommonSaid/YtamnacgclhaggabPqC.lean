/- All partings of a ring: how many, and which rings have the same. -/
import Derived.Test.YtamnacgclhaggabPqM
import Derived.Test.YtamnacgclhaggabAllP
namespace Go.Proofs.Ytamnacgclhaggab
open Go.ChangeShapes Go.WideShapes Go.ChangeAt Go.RowKit

abbrev Quad := Nat × Nat × Nat × Nat
def quadsN (n : Nat) : List Quad := (List.range n).flatMap fun a => (upto a n).flatMap fun b => (upto a n).flatMap fun c => (upto c n).map fun d => (a, b, c, d)
def qL (q : Quad) : List Int := p4 q.1 q.2.1 q.2.2.1 q.2.2.2
def goodQ (q : Quad) : Bool := !Nat.beq q.2.1 q.2.2.1 && !Nat.beq q.2.1 q.2.2.2
def parW (l : List Int) (q : Quad) : Bool := goodQ q && partB l (qL q)
theorem pts_in {l : List Int} (hr : Tell l) {z : Nat} (hz : z < l.length) : (z : Int) ∈ l := hr.has (by omega) (by omega)
theorem f4_of {l : List Int} (hr : Tell l) {a b c d : Nat} (ha : a < l.length) (hb : b < l.length) (hc : c < l.length) (hd : d < l.length) (h1 : a ≠ b) (h2 : a ≠ c) (h3 : a ≠ d) (h4 : b ≠ c) (h5 : b ≠ d) (h6 : c ≠ d) : F4 l (a : Int) (b : Int) (c : Int) (d : Int) :=
  ⟨pts_in hr ha, pts_in hr hb, pts_in hr hc, pts_in hr hd, by omega, by omega, by omega, by omega, by omega, by omega⟩
theorem beq_no {a b : Nat} (h : a ≠ b) : Nat.beq a b = false := by
  cases e : Nat.beq a b with
  | false => rfl
  | true => exact absurd (Nat.eq_of_beq_eq_true e) h
theorem pk_par {l : List Int} {a b c d : Nat} (hr : Ring l) (hab : a < b) (hb : b < l.length) (hac : a < c) (hcd : c < d) (hd : d < l.length) : pk l a b c d = if parW l (a, b, c, d) = true then [qL (a, b, c, d)] else [] := by
  unfold pk
  have e : (four l.length (p4 a b c d) && partB l (p4 a b c d)) = parW l (a, b, c, d) := by
    by_cases hbc : b = c
    · have h4 : four l.length (p4 a b c d) = false := by
        refine (four_no fun h => ?_).1
        rw [p4, four4] at h
        omega
      have hq : parW l (a, b, c, d) = false := by unfold parW goodQ; simp [hbc]
      rw [h4, hq]; rfl
    · by_cases hbd : b = d
      · have h4 : four l.length (p4 a b c d) = false := by
          refine (four_no fun h => ?_).1
          rw [p4, four4] at h
          omega
        have hq : parW l (a, b, c, d) = false := by unfold parW goodQ; simp [hbd]
        rw [h4, hq]; rfl
      · have f := f4_of hr.1 (a := a) (b := b) (c := c) (d := d) (by omega) hb (by omega) hd (by omega) (by omega) (by omega) hbc hbd (by omega)
        have h4 : four l.length (p4 a b c d) = true := four_of hr.1 f
        rw [h4]
        unfold parW goodQ
        simp only
        rw [beq_no hbc, beq_no hbd]
        rfl
  rw [e]
  rfl
theorem fm_if {α β : Type} (p : α → Bool) (f : α → β) (L : List α) : (L.flatMap fun x => if p x = true then [f x] else []) = (L.filter p).map f := by
  induction L with
  | nil => rfl
  | cons a t ih =>
    rw [List.flatMap_cons, ih, List.filter_cons]
    split <;> rfl
theorem fm_congr2 {α β : Type} (L : List α) (f g : α → List β) (h : ∀ x ∈ L, f x = g x) : L.flatMap f = L.flatMap g := by
  induction L with
  | nil => rfl
  | cons x L ih => rw [List.flatMap_cons, List.flatMap_cons, h x (by simp), ih (fun y hy => h y (by simp [hy]))]
theorem allP_quads {l : List Int} (hr : Ring l) : allP l = ((quadsN l.length).filter (parW l)).map qL := by
  rw [← fm_if]
  unfold allP sw quadsN
  rw [List.flatMap_assoc]
  refine fm_congr2 _ _ _ fun a ha => ?_
  rw [List.flatMap_assoc]
  unfold sx
  refine fm_congr2 _ _ _ fun b hb => ?_
  have hb' := upto_mem hb
  rw [List.flatMap_assoc]
  unfold sy
  refine fm_congr2 _ _ _ fun c hc => ?_
  have hc' := upto_mem hc
  rw [List.flatMap_map]
  unfold sz
  refine fm_congr2 _ _ _ fun d hd => ?_
  have hd' := upto_mem hd
  exact pk_par hr hb'.1 hb'.2 hc'.1 hd'.1 hd'.2
/-- Sets of four, each with its three ways. -/
def subs4 (n : Nat) : List Quad := (List.range n).flatMap fun a => (upto a n).flatMap fun b => (upto b n).flatMap fun c => (upto c n).map fun d => (a, b, c, d)
def ways (q : Quad) : List Quad := [(q.1, q.2.1, q.2.2.1, q.2.2.2), (q.1, q.2.2.1, q.2.1, q.2.2.2), (q.1, q.2.2.2, q.2.1, q.2.2.1)]
theorem ways_key : ∀ n : Fin 8, ((quadsN n.val).filter goodQ).isPerm ((subs4 n.val).flatMap ways) = true := by decide +kernel
theorem subs_key : ∀ n : Fin 8, 24 * (subs4 n.val).length = n.val * (n.val - 1) * (n.val - 2) * (n.val - 3) := by decide +kernel
theorem subs_mem {n : Nat} {q : Quad} (h : q ∈ subs4 n) : q.1 < q.2.1 ∧ q.2.1 < q.2.2.1 ∧ q.2.2.1 < q.2.2.2 ∧ q.2.2.2 < n := by
  unfold subs4 at h
  simp only [List.mem_flatMap, List.mem_map] at h
  obtain ⟨a, _, b, hb, c, hc, d, hd, rfl⟩ := h
  have h1 := upto_mem hb
  have h2 := upto_mem hc
  have h3 := upto_mem hd
  exact ⟨h1.1, h2.1, h3.1, h3.2⟩
theorem sum_ones {α : Type} (f : α → Nat) : ∀ L : List α, (∀ x ∈ L, f x = 1) → (L.map f).sum = L.length
  | [], _ => rfl
  | a :: t, h => by
    rw [List.map_cons, List.sum_cons, h a (by simp), sum_ones f t fun x hx => h x (by simp [hx]), List.length_cons]
    omega
theorem one_way {l : List Int} (hr : Ring l) {q : Quad} (h : q.1 < q.2.1 ∧ q.2.1 < q.2.2.1 ∧ q.2.2.1 < q.2.2.2 ∧ q.2.2.2 < l.length) : ((ways q).filter fun q => partB l (qL q)).length = 1 := by
  obtain ⟨a, b, c, d⟩ := q
  simp only at h
  obtain ⟨h1, h2, h3, h4⟩ := h
  have f := f4_of hr.1 (a := a) (b := b) (c := c) (d := d) (by omega) (by omega) (by omega) h4 (by omega) (by omega) (by omega) (by omega) (by omega) (by omega)
  have s := part_some f
  have x1 := part_cross f
  have x2 := part_cross f.cross
  have x3 := part_cross f.flip2
  have x4 := part_cross f.flip2.cross
  have x5 := part_cross f.cross.flip2
  have e1 := part_flip2 f
  have e2 := part_flip2 f.cross
  have e3 := part_flip2 f.flip2.cross
  simp only [ways, qL, p4, List.filter_cons, List.filter_nil]
  revert s x1 x2 x3 x4 x5 e1 e2 e3
  cases partB l [(a : Int), (b : Int), (c : Int), (d : Int)] <;> cases partB l [(a : Int), (c : Int), (b : Int), (d : Int)] <;> cases partB l [(a : Int), (d : Int), (b : Int), (c : Int)] <;>
    intro s x1 x2 x3 x4 x5 e1 e2 e3 <;> simp_all
theorem many_count {l : List Int} (hr : Ring l) : 24 * (allP l).length = l.length * (l.length - 1) * (l.length - 2) * (l.length - 3) := by
  have h7 := hr.1.2.1
  have hp := List.isPerm_iff.1 (ways_key ⟨l.length, by omega⟩)
  have hs := subs_key ⟨l.length, by omega⟩
  simp only at hp hs
  rw [← hs, allP_quads hr, List.length_map]
  have e : (quadsN l.length).filter (parW l) = ((quadsN l.length).filter goodQ).filter fun q => partB l (qL q) := by
    rw [List.filter_filter]
    exact List.filter_congr fun q _ => by unfold parW; exact Bool.and_comm _ _
  rw [e, (hp.filter _).length_eq, List.filter_flatMap, List.length_flatMap]
  rw [sum_ones _ _ fun q hq => one_way hr (subs_mem hq)]
end Go.Proofs.Ytamnacgclhaggab
