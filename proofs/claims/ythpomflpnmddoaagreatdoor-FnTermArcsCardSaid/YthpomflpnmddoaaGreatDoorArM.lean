/- Arcs of rings: where a set begins and ends, going round. Plain lemmas. -/
import Derived.Test.YthpomflpnmddoaaGreatDoorWvM
namespace Go.Proofs.YthpomflpnmddoaaGreatDoor

/-- Whether a point follows the place i of a ring that is in the set, that place's own not. -/
def begs (p : Int → Bool) (l : List Int) (i : Nat) : Bool := !p (l.getD i 0) && p (l.getD ((i + 1) % l.length) 0)
/-- Whether the place i is the last one of an arc. -/
def fins (p : Int → Bool) (l : List Int) (i : Nat) : Bool := p (l.getD i 0) && !p (l.getD ((i + 1) % l.length) 0)
/-- The places where arcs begin, found in the first k steps round. -/
def runP (p : Int → Bool) (l : List Int) (k : Nat) : List Nat := ((List.range k).filter (begs p l)).map fun i => (i + 1) % l.length
/-- How many arcs. -/
def runN (p : Int → Bool) (l : List Int) : Nat := (runP p l l.length).length
theorem runP_zero (p : Int → Bool) (l : List Int) : runP p l 0 = [] := rfl
theorem runP_yes {p : Int → Bool} {l : List Int} {k : Nat} (h : begs p l k = true) : runP p l k ++ [(k + 1) % l.length] = runP p l (k + 1) := by
  unfold runP
  rw [List.range_succ, List.filter_append, List.map_append]
  simp [h]
theorem runP_no {p : Int → Bool} {l : List Int} {k : Nat} (h : begs p l k = false) : runP p l (k + 1) = runP p l k := by
  unfold runP
  rw [List.range_succ, List.filter_append, List.map_append]
  simp [h]
theorem runP_len (p : Int → Bool) (l : List Int) (k : Nat) : (runP p l k).length ≤ k := by
  have := List.length_filter_le (begs p l) (List.range k)
  simp only [List.length_range] at this
  simpa [runP] using this
theorem runN_le (p : Int → Bool) (l : List Int) : runN p l ≤ l.length := runP_len p l _
theorem runP_step (p : Int → Bool) (l : List Int) (k : Nat) : (runP p l (k + 1)).length = (runP p l k).length + if begs p l k then 1 else 0 := by
  cases h : begs p l k
  · rw [runP_no h]; simp
  · rw [← runP_yes h]; simp
theorem runP_mem {p : Int → Bool} {l : List Int} {k j : Nat} (hk : k ≤ l.length) (h : j ∈ runP p l k) : j < l.length ∧ p (l.getD j 0) = true ∧ ∃ i, i < l.length ∧ (i + 1) % l.length = j ∧ p (l.getD i 0) = false := by
  simp only [runP, List.mem_map, List.mem_filter, List.mem_range] at h
  obtain ⟨i, ⟨hi, hb⟩, rfl⟩ := h
  simp only [begs, Bool.and_eq_true, Bool.not_eq_true'] at hb
  exact ⟨Nat.mod_lt _ (by omega), hb.2, i, by omega, rfl, hb.1⟩

/-- The last of the values at places that are asked for. -/
def lastV (f : Nat → Bool) (v : Nat → Int) : Nat → Int
  | 0 => 0
  | k + 1 => if f k then v k else lastV f v k
theorem lastV_one (f : Nat → Bool) (v : Nat → Int) (i n : Nat) (hi : i < n) (hf : f i = true) (h : ∀ j, j < n → f j = true → j = i) : lastV f v n = v i := by
  induction n with
  | zero => omega
  | succ n ih =>
    unfold lastV
    cases hn : f n
    · simp only [Bool.false_eq_true, if_false]
      have : i ≠ n := fun e => by subst e; rw [hf] at hn; cases hn
      exact ih (by omega) fun j hj hfj => h j (by omega) hfj
    · simp only [if_true]
      rw [h n (by omega) hn]

/-- What places alone tell: as many as n, in the set as the number s tells. -/
def begB (n s i : Nat) : Bool := !s.testBit i && s.testBit ((i + 1) % n)
def finB (n s i : Nat) : Bool := s.testBit i && !s.testBit ((i + 1) % n)
/-- A ring's places that are in a set, as a number. -/
def bitsL (p : Int → Bool) : List Int → Nat
  | [] => 0
  | x :: l => (if p x then 1 else 0) + 2 * bitsL p l
theorem bitsL_bit (p : Int → Bool) : ∀ (l : List Int) (i : Nat), i < l.length → (bitsL p l).testBit i = p (l.getD i 0)
  | [], i, h => by simp at h
  | x :: l, 0, _ => by
    unfold bitsL
    rw [Nat.testBit_zero, show (x :: l).getD 0 0 = x from rfl]
    cases h : p x
    · rw [if_neg (by simp)]; simp
    · rw [if_pos rfl]; simp
  | x :: l, i + 1, h => by
    unfold bitsL
    have e : ((if p x then 1 else 0) + 2 * bitsL p l) / 2 = bitsL p l := by split <;> omega
    rw [Nat.testBit_succ, e]
    rw [bitsL_bit p l i (by simpa using h)]
    simp [List.getD]
theorem bitsL_lt (p : Int → Bool) : ∀ l : List Int, bitsL p l < 2 ^ l.length
  | [] => by simp [bitsL]
  | x :: l => by
    have := bitsL_lt p l
    simp only [bitsL, List.length_cons, Nat.pow_succ]
    split <;> omega
theorem one_end_key : ∀ n : Fin 8, ∀ s : Fin 128, s.val < 2 ^ n.val → ((List.range n.val).filter (begB n.val s.val)).length = 1 →
    ((List.range n.val).filter (finB n.val s.val)).length = 1 := by decide +kernel
theorem filter_one {n : Nat} {f : Nat → Bool} (h : ((List.range n).filter f).length = 1) {i j : Nat} (hi : i < n) (hj : j < n) (fi : f i = true) (fj : f j = true) : i = j := by
  obtain ⟨a, ha⟩ := List.length_eq_one_iff.1 h
  have h1 : i ∈ (List.range n).filter f := by simp [hi, fi]
  have h2 : j ∈ (List.range n).filter f := by simp [hj, fj]
  rw [ha] at h1 h2
  simp at h1 h2
  omega
theorem begs_bits (p : Int → Bool) (l : List Int) (i : Nat) (hi : i < l.length) : begs p l i = begB l.length (bitsL p l) i ∧ fins p l i = finB l.length (bitsL p l) i := by
  have h2 : (i + 1) % l.length < l.length := Nat.mod_lt _ (by omega)
  unfold begs begB fins finB
  rw [bitsL_bit p l i hi, bitsL_bit p l _ h2]
  exact ⟨rfl, rfl⟩
theorem filter_range_congr {n : Nat} {f g : Nat → Bool} (h : ∀ i, i < n → f i = g i) : (List.range n).filter f = (List.range n).filter g :=
  List.filter_congr fun i hi => h i (List.mem_range.1 hi)
/-- An arc begins once, and ends once. -/
theorem one_begin {p : Int → Bool} {l : List Int} (h : runN p l = 1) {i j : Nat} (hi : i < l.length) (hj : j < l.length) (fi : begs p l i = true) (fj : begs p l j = true) : i = j := by
  refine filter_one (f := begs p l) (n := l.length) ?_ hi hj fi fj
  simpa [runN, runP] using h
theorem one_end {p : Int → Bool} {l : List Int} (h7 : l.length ≤ 7) (h : runN p l = 1) {i j : Nat} (hi : i < l.length) (hj : j < l.length) (fi : fins p l i = true) (fj : fins p l j = true) : i = j := by
  have h1 : ((List.range l.length).filter (begB l.length (bitsL p l))).length = 1 := by
    rw [← filter_range_congr fun i hi => (begs_bits p l i hi).1]
    simpa [runN, runP] using h
  have hb := bitsL_lt p l
  have h128 : bitsL p l < 128 := Nat.lt_of_lt_of_le hb (Nat.pow_le_pow_right (by omega) h7 : 2 ^ l.length ≤ 2 ^ 7)
  have h2 := one_end_key ⟨l.length, by omega⟩ ⟨bitsL p l, h128⟩ hb h1
  refine filter_one (f := fins p l) (n := l.length) ?_ hi hj fi fj
  rw [filter_range_congr fun i hi => (begs_bits p l i hi).2]
  exact h2
/-- The first point of an arc, and the last one. -/
def firstA (p : Int → Bool) (l : List Int) : Int := lastV (begs p l) (fun i => l.getD ((i + 1) % l.length) 0) l.length
def finA (p : Int → Bool) (l : List Int) : Int := lastV (fins p l) (fun i => l.getD i 0) l.length
theorem firstA_run {p : Int → Bool} {l : List Int} (h : runN p l = 1) : ∃ j, runP p l l.length = [j] ∧ j < l.length ∧ p (l.getD j 0) = true ∧ firstA p l = l.getD j 0 ∧ ∃ d, d < l.length ∧ (j + d) % l.length ≠ j ∧ p (l.getD ((j + d) % l.length) 0) = false := by
  obtain ⟨j, hj⟩ := List.length_eq_one_iff.1 h
  have hm : j ∈ runP p l l.length := by rw [hj]; simp
  have hm' := hm
  simp only [runP, List.mem_map, List.mem_filter, List.mem_range] at hm'
  obtain ⟨i, ⟨hi, hb⟩, rfl⟩ := hm'
  obtain ⟨h1, h2, _⟩ := runP_mem (Nat.le_refl _) hm
  refine ⟨_, hj, h1, h2, lastV_one _ _ i _ hi hb fun j' hj' hb' => one_begin h hj' hi hb' hb, l.length - 1, by omega, ?_, ?_⟩
  all_goals
    have e : ((i + 1) % l.length + (l.length - 1)) % l.length = i := by
      rcases Nat.lt_or_ge (i + 1) l.length with hlt | hge
      · rw [Nat.mod_eq_of_lt hlt, show i + 1 + (l.length - 1) = i + l.length by omega, Nat.add_mod_right, Nat.mod_eq_of_lt hi]
      · have : i + 1 = l.length := by omega
        rw [this, Nat.mod_self, Nat.zero_add, Nat.mod_eq_of_lt (by omega)]
        omega
    rw [e]
  · intro e'
    simp only [begs, Bool.and_eq_true, Bool.not_eq_true'] at hb
    rw [← e'] at h2
    rw [hb.1] at h2
    cases h2
  · simp only [begs, Bool.and_eq_true, Bool.not_eq_true'] at hb
    exact hb.1
theorem finA_end {p : Int → Bool} {l : List Int} (h7 : l.length ≤ 7) (h : runN p l = 1) {j : Nat} (hj : j < l.length) (h1 : p (l.getD j 0) = true) (h2 : p (l.getD ((j + 1) % l.length) 0) = false) : finA p l = l.getD j 0 :=
  lastV_one _ _ j _ hj (by rw [fins, h1, h2]; rfl) fun i hi hf => one_end h7 h hi hj hf (by rw [fins, h1, h2]; rfl)
end Go.Proofs.YthpomflpnmddoaaGreatDoor
