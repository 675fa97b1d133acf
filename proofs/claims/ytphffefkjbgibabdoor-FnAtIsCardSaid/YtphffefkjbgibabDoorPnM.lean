/- Patterns at sets: what they are; the model's way and the program's way to them are one. Plain lemmas. -/
import Derived.Test.YtphffefkjbgibabDoorWvM
import Derived.Test.YtphffefkjbgibabDoorMA
namespace Go.Proofs.YtphffefkjbgibabDoor
open Go.ChangeShapes Go.WideShapes Go.ChangeAt Go.RowKit

/-- How many points of a list are less than one. -/
def lesN (p : List Int) (x : Int) : Nat := p.countP fun y => decide (y < x)
/-- Each point called by how many lesser ones there are. -/
def rngL (p : List Int) : List Int := p.map fun x => (lesN p x : Int)
/-- The pattern of a ring at a set. -/
def patL (l : List Int) (s : Nat) : List Int := rngL (partL l s)
/-- How many points of a set are less than one. -/
def blwN (s x : Nat) : Nat := (List.range x).countP s.testBit
/-- How many points a set has. -/
def sizN (s : Nat) : Nat := blwN s 7
/-- The points of a set in the order of a list, called by how many lesser ones the set has. -/
def rowS (l : List Int) (s : Nat) : List Int := (pickN s l).map fun x => (blwN s x.toNat : Int)

theorem blw_small : ∀ (s : Fin 128) (x : Fin 8), (((List.range 7).filter s.val.testBit).countP fun v => decide (v < x.val)) = blwN s.val x.val := by decide +kernel
theorem blw_low : ∀ (s : Fin 128) (x : Fin 7), s.val.testBit x.val = true → (blwN s.val x.val = 0 ↔ x.val = lowN s.val) := by decide +kernel
theorem blw_le (s x : Nat) : blwN s x ≤ x := by
  have := List.countP_le_length (p := s.testBit) (l := List.range x)
  rwa [List.length_range] at this
theorem blw_step (s x : Nat) : blwN s (x + 1) = blwN s x + if s.testBit x then 1 else 0 := by
  unfold blwN
  rw [List.range_succ, List.countP_append]
  simp [List.countP_cons]
theorem siz_le (s : Nat) : sizN s ≤ 7 := blw_le s 7

theorem siz_pos {s m : Nat} (h : sizN s = m) (hm : 0 < m) : 0 < s := by
  rcases Nat.eq_zero_or_pos s with rfl | h0
  · have : sizN 0 = 0 := by decide
    omega
  · exact h0
theorem cutL_split (l : List Int) (x : Int) (hx : x ∈ l) : cutL l x = l.drop (l.idxOf x) ++ l.take (l.idxOf x) := by
  have hi := List.idxOf_lt_length_of_mem hx
  apply ext_getD
  · simp [cutL]; omega
  intro k hk
  have hk' : k < l.length := by simpa [cutL] using hk
  rw [cutL_get l x k hk']
  by_cases h : l.idxOf x + k < l.length
  · rw [Nat.mod_eq_of_lt h]
    simp only [List.getD]
    rw [List.getElem?_append_left (by simp; omega), List.getElem?_drop]
  · have e : (l.idxOf x + k) % l.length = k - (l.length - l.idxOf x) := by rw [Nat.mod_eq_sub_mod (by omega), Nat.mod_eq_of_lt (by omega)]; omega
    rw [e]
    simp only [List.getD]
    rw [List.getElem?_append_right (by simp; omega), List.getElem?_take, List.length_drop, if_pos (by omega)]
theorem cutL_perm (l : List Int) (x : Int) (hx : x ∈ l) : List.Perm (cutL l x) l := by
  rw [cutL_split l x hx]
  have := List.perm_append_comm (l₁ := l.drop (l.idxOf x)) (l₂ := l.take (l.idxOf x))
  rwa [List.take_append_drop] at this
theorem part_perm (l : List Int) (s : Nat) (hlow : ((lowN s : Nat) : Int) ∈ l) : List.Perm (partL l s) (pickN s l) := (cutL_perm l _ hlow).filter _
theorem low_mem {l : List Int} (ht : Tell l) {s : Nat} (h0 : 0 < s) (hs : s < 2 ^ l.length) : ((lowN s : Nat) : Int) ∈ l := by
  have := low_lt s l.length ht.2.1 hs (by omega)
  exact ht.has (by omega) (by omega)
theorem pick_perm {l : List Int} (ht : Tell l) {s : Nat} (hs : s < 2 ^ l.length) : List.Perm (pickN s l) (((List.range 7).filter s.testBit).map Int.ofNat) := by
  refine (List.perm_ext_iff_of_nodup (ht.2.2.2.filter _) ?_).2 fun x => ?_
  · unfold List.Nodup
    rw [List.pairwise_map]
    have hn : ((List.range 7).filter s.testBit).Nodup := List.nodup_range.filter _
    exact hn.imp fun h e => h (by injection e)
  · have e0 : pickN s l = l.filter (hasN s) := rfl
    try rw [e0]
    unfold hasN
    simp only [List.mem_filter, List.mem_map, List.mem_range]
    constructor
    · rintro ⟨hx, hb⟩
      have h1 := ht.2.2.1 x hx
      have h2 := ht.2.1
      exact ⟨x.toNat, ⟨by omega, hb⟩, by show ((x.toNat : Nat) : Int) = x; omega⟩
    · rintro ⟨v, ⟨hv, hb⟩, rfl⟩
      have hvl : v < l.length := by
        rcases Nat.lt_or_ge v l.length with h | h
        · exact h
        · rw [Nat.testBit_lt_two_pow (Nat.lt_of_lt_of_le hs (Nat.pow_le_pow_right (by omega) h))] at hb
          cases hb
      exact ⟨ht.has (show (0 : Int) ≤ ((v : Nat) : Int) by omega) (show ((v : Nat) : Int) < l.length by omega), hb⟩
theorem part_all_perm {l : List Int} (ht : Tell l) {s : Nat} (hs : s < 2 ^ l.length) : List.Perm (partL l s) (((List.range 7).filter s.testBit).map Int.ofNat) := by
  rcases Nat.eq_zero_or_pos s with rfl | h0
  · have e1 : partL l 0 = [] := by
      unfold partL pickN
      rw [List.filter_eq_nil_iff]
      intro x _
      simp [hasN]
    have e2 : (List.range 7).filter (Nat.testBit 0) = [] := by decide
    rw [e1, e2]
    exact List.Perm.refl _
  · exact (part_perm l s (low_mem ht h0 hs)).trans (pick_perm ht hs)
theorem part_siz {l : List Int} (ht : Tell l) {s : Nat} (hs : s < 2 ^ l.length) : (partL l s).length = sizN s := by
  rw [(part_all_perm ht hs).length_eq, List.length_map, sizN, blwN, List.countP_eq_length_filter]
theorem les_blw {l : List Int} (ht : Tell l) {s : Nat} (hs : s < 2 ^ l.length) (x : Nat) (hx : x ≤ 7) : lesN (partL l s) (x : Int) = blwN s x := by
  unfold lesN
  rw [(part_all_perm ht hs).countP_eq, List.countP_map]
  have := blw_small ⟨s, fits s l.length ht.2.1 hs⟩ ⟨x, by omega⟩
  simp only at this
  rw [← this]
  congr 1
  funext v
  show decide (((v : Nat) : Int) < (x : Int)) = decide (v < x)
  simp
theorem part_bd {l : List Int} (ht : Tell l) {s : Nat} (hs : s < 2 ^ l.length) : ∀ x ∈ partL l s, 0 ≤ x ∧ x < 7 := fun x hx => by
  have h := (part_all_perm ht hs).mem_iff.1 hx
  simp only [List.mem_map, List.mem_filter, List.mem_range] at h
  obtain ⟨v, ⟨hv, _⟩, rfl⟩ := h
  exact ⟨show (0 : Int) ≤ ((v : Nat) : Int) by omega, show ((v : Nat) : Int) < 7 by omega⟩
theorem pat_map {l : List Int} (ht : Tell l) {s : Nat} (hs : s < 2 ^ l.length) : patL l s = (partL l s).map fun x => (blwN s x.toNat : Int) := by
  unfold patL rngL
  refine List.map_congr_left fun x hx => ?_
  have hb := part_bd ht hs x hx
  have := les_blw ht hs x.toNat (by omega)
  rw [Int.toNat_of_nonneg hb.1] at this
  rw [this]
theorem pat_length {l : List Int} (ht : Tell l) {s : Nat} (hs : s < 2 ^ l.length) : (patL l s).length = sizN s := by rw [← part_siz ht hs, patL, rngL, List.length_map]
theorem pat_bd (l : List Int) (s : Nat) : ∀ x ∈ patL l s, 0 ≤ x ∧ x ≤ (partL l s).length := fun x hx => by
  unfold patL rngL at hx
  obtain ⟨y, _, rfl⟩ := List.mem_map.1 hx
  have := List.countP_le_length (p := fun z => decide (z < y)) (l := partL l s)
  unfold lesN
  omega
/-- A list that begins anew where 0 stands. -/
theorem cut_join (A B : List Int) (hA : ∀ x ∈ A, x ≠ 0) (hB : B.head? = some 0) : cutL (A ++ B) 0 = B ++ A := by
  obtain ⟨t, rfl⟩ : ∃ t, B = 0 :: t := by
    cases B with
    | nil => simp at hB
    | cons b t => exact ⟨t, by simp at hB; rw [hB]⟩
  have hn : (0 : Int) ∉ A := fun h => hA 0 h rfl
  have hi : (A ++ 0 :: t).idxOf 0 = A.length := by
    rw [List.idxOf_append, if_neg hn, List.idxOf_cons_self]; simp
  rw [cutL_split _ _ (by simp), hi, List.drop_left, List.take_left]
theorem pat_row {l : List Int} (ht : Tell l) {s : Nat} (h0 : 0 < s) (hs : s < 2 ^ l.length) : cutL (rowS l s) 0 = patL l s := by
  have hm := low_mem ht h0 hs
  have hi := List.idxOf_lt_length_of_mem hm
  have h128 := fits s l.length ht.2.1 hs
  have hlb := (low_has s h128 (by omega)).1
  have hl6 := low_le s
  rw [pat_map ht hs, partL, cutL_split l _ hm]
  unfold rowS
  have e : pickN s l = pickN s (l.take (l.idxOf ((lowN s : Nat) : Int))) ++ pickN s (l.drop (l.idxOf ((lowN s : Nat) : Int))) := by
    unfold pickN
    rw [← List.filter_append, List.take_append_drop]
  have e2 : pickN s (l.drop (l.idxOf ((lowN s : Nat) : Int)) ++ l.take (l.idxOf ((lowN s : Nat) : Int))) = pickN s (l.drop (l.idxOf ((lowN s : Nat) : Int))) ++ pickN s (l.take (l.idxOf ((lowN s : Nat) : Int))) := by
    unfold pickN
    rw [List.filter_append]
  rw [e, e2, List.map_append, List.map_append]
  refine cut_join _ _ (fun x hx => ?_) ?_
  · obtain ⟨y, hy, rfl⟩ := List.mem_map.1 hx
    unfold pickN at hy
    obtain ⟨hy1, hy2⟩ := List.mem_filter.1 hy
    have hyl := List.mem_of_mem_take hy1
    have hb := ht.2.2.1 y hyl
    have h7 := ht.2.1
    have hne : y ≠ ((lowN s : Nat) : Int) := by
      rintro rfl
      obtain ⟨j, hj, e⟩ := List.getElem_of_mem hy1
      rw [List.length_take] at hj
      rw [List.getElem_take] at e
      have h3 := ht.2.2.2.idxOf_getElem j (by omega)
      rw [e] at h3
      omega
    have h4 := (blw_low ⟨s, h128⟩ ⟨y.toNat, by omega⟩ hy2)
    simp only at h4
    omega
  · rw [List.drop_eq_getElem_cons hi, List.getElem_idxOf hi]
    unfold pickN
    have hh : hasN s ((lowN s : Nat) : Int) = true := by unfold hasN; rw [Int.toNat_natCast]; exact hlb
    rw [List.filter_cons, if_pos hh, List.map_cons, List.head?_cons, Int.toNat_natCast]
    have h4 := (blw_low ⟨s, h128⟩ ⟨lowN s, by omega⟩ hlb)
    simp only at h4
    rw [h4.2 trivial]
    rfl
theorem row_len (l : List Int) (s : Nat) : (rowS l s).length = (pickN s l).length := by simp [rowS]

/-- Whether a ring has a pattern at a set. -/
def atN (l p : List Int) (s : Nat) : Bool := decide (patL l s = p)
/-- The sets at which it has one, in ascending order. -/
def setsL (l p : List Int) : List Nat := (List.range (2 ^ l.length)).filter (atN l p)
theorem at_zero (l p : List Int) (hp : 0 < p.length) : atN l p 0 = false := by
  unfold atN patL partL pickN
  have : (cutL l ((lowN 0 : Nat) : Int)).filter (hasN 0) = [] := by
    rw [List.filter_eq_nil_iff]
    intro x _
    simp [hasN]
  rw [this]
  simp only [decide_eq_false_iff_not]
  intro e
  rw [← e] at hp
  simp [rngL] at hp
theorem at_siz {l p : List Int} (ht : Tell l) {s : Nat} (hs : s < 2 ^ l.length) (h : sizN s ≠ p.length) : atN l p s = false := by
  unfold atN
  simp only [decide_eq_false_iff_not]
  intro e
  apply h
  rw [← pat_length ht hs, e]
/-- A ring and a pattern of no more points. -/
def Two8 (l p : List Int) : Prop := Ring l ∧ Ring p ∧ p.length ≤ l.length
instance (l p : List Int) : Decidable (Two8 l p) := by unfold Two8; infer_instance
def two8 (l p : List Int) : Bool := decide (Two8 l p)
theorem two8_yes {l p : List Int} (h : Two8 l p) : two8 l p = true := by simpa [two8] using h
theorem two8_no {l p : List Int} (h : ¬ Two8 l p) : two8 l p = false := by simpa [two8] using h
end Go.Proofs.YtphffefkjbgibabDoor
