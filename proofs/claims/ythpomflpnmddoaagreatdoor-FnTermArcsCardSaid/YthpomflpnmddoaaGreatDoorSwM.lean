/- A point and the one behind it exchanged: what the list is. -/
import Derived.Test.YthpomflpnmddoaaGreatDoorMA
namespace Go.Proofs.YthpomflpnmddoaaGreatDoor

/-- Two places exchanged. -/
def swp (m : List Int) (i j : Nat) : List Int := (m.set i (m.getD j 0)).set j (m.getD i 0)
@[simp] theorem swp_length (m : List Int) (i j : Nat) : (swp m i j).length = m.length := by simp [swp]
theorem swp_get (m : List Int) (i j k : Nat) (hi : i < m.length) (hj : j < m.length) (_ : k < m.length) : (swp m i j).getD k 0 = if k = j then m.getD i 0 else if k = i then m.getD j 0 else m.getD k 0 := by
  unfold swp
  simp only [List.getD]
  rw [List.getElem?_set, List.getElem?_set]
  by_cases h : k = j
  · subst h; simp [hj]
  · rw [if_neg (by omega), if_neg h]
    by_cases h' : k = i
    · subst h'; simp [hi]
    · rw [if_neg (by omega), if_neg h']
theorem swp_mem (m : List Int) (i j : Nat) (hi : i < m.length) (hj : j < m.length) (x : Int) : x ∈ swp m i j ↔ x ∈ m := by
  constructor
  · intro h
    obtain ⟨k, hk, e⟩ := List.getElem_of_mem h
    have hk' : k < m.length := by simpa using hk
    have e2 : (swp m i j).getD k 0 = x := by simp [List.getD, hk', e]
    rw [swp_get m i j k hi hj hk'] at e2
    rw [← e2]
    split
    · exact getD_mem m i hi
    · split
      · exact getD_mem m j hj
      · exact getD_mem m k hk'
  · intro h
    obtain ⟨k, hk, e⟩ := List.getElem_of_mem h
    have e0 : m.getD k 0 = x := by simp [List.getD, hk, e]
    have hin : ∀ q, q < m.length → (swp m i j).getD q 0 ∈ swp m i j := fun q hq => getD_mem _ q (by simpa using hq)
    by_cases h1 : k = i
    · have h2 := hin j hj
      rw [swp_get m i j j hi hj hj, if_pos rfl] at h2
      rw [← h1, e0] at h2
      subst h1
      exact h2
    · by_cases h2 : k = j
      · have h3 := hin i hi
        rw [swp_get m i j i hi hj hi] at h3
        by_cases h4 : i = j
        · omega
        · rw [if_neg h4, if_pos rfl] at h3
          rw [← h2, e0] at h3
          subst h2
          exact h3
      · have h3 := hin k hk
        rw [swp_get m i j k hi hj hk, if_neg h2, if_neg h1, e0] at h3
        exact h3

theorem nodup_of_mem (a b : List Int) (hl : a.length = b.length) (hb : Tell b) (h : ∀ x, x ∈ b → x ∈ a) : Tell a := by
  have hall : ∀ j : Nat, j < a.length → (j : Int) ∈ a := fun j hj => h _ (hb.has (by omega) (by omega))
  obtain ⟨h1, h2⟩ := nodup_of_all a.length a rfl hall
  exact ⟨by rw [hl]; exact hb.1, by rw [hl]; exact hb.2.1, h2, h1⟩
theorem swp_tell {l : List Int} (h : Tell l) {i j : Nat} (hi : i < l.length) (hj : j < l.length) : Tell (swp l i j) :=
  nodup_of_mem _ l (by simp) h fun x hx => (swp_mem l i j hi hj x).2 hx
theorem cutL_mem (l : List Int) (x y : Int) (hx : x ∈ l) : y ∈ cutL l x ↔ y ∈ l := by
  have hi := List.idxOf_lt_length_of_mem hx
  constructor
  · intro h
    obtain ⟨k, hk, e⟩ := List.getElem_of_mem h
    have hk' : k < l.length := by simpa using hk
    have e2 : (cutL l x).getD k 0 = y := by simp [List.getD, hk', e]
    rw [cutL_get l x k hk'] at e2
    rw [← e2]
    exact getD_mem l _ (Nat.mod_lt _ (by omega))
  · intro h
    obtain ⟨k, hk, e⟩ := List.getElem_of_mem h
    have e0 : l.getD k 0 = y := by simp [List.getD, hk, e]
    have hq : (k + (l.length - l.idxOf x)) % l.length < l.length := Nat.mod_lt _ (by omega)
    have h2 := getD_mem (cutL l x) _ (by simpa using hq)
    rw [cutL_get l x _ hq] at h2
    have e3 : (l.idxOf x + (k + (l.length - l.idxOf x)) % l.length) % l.length = k := by
      rw [Nat.add_mod_mod, show l.idxOf x + (k + (l.length - l.idxOf x)) = k + l.length by omega, Nat.add_mod_right, Nat.mod_eq_of_lt hk]
    rw [e3, e0] at h2
    exact h2
theorem cutL_tell {l : List Int} {x : Int} (h : Tell l) (hx : x ∈ l) : Tell (cutL l x) :=
  nodup_of_mem _ l (by simp) h fun y hy => (cutL_mem l x y hx).2 hy
theorem cutL_ring {l : List Int} (h : Tell l) : Ring (cutL l 0) := by
  refine ⟨cutL_tell h h.zero, ?_⟩
  have h3 := h.1
  rw [cutL_get l 0 0 (by omega)]
  have hi := List.idxOf_lt_length_of_mem h.zero
  rw [show l.idxOf 0 + 0 = l.idxOf 0 by omega, Nat.mod_eq_of_lt hi]
  exact at_idx l 0 h.zero

/-- The ring in which x and the one behind it are exchanged. -/
def swapL (l : List Int) (x : Int) : List Int := cutL (swp l (l.idxOf x) ((l.idxOf x + 1) % l.length)) 0
@[simp] theorem swapL_length (l : List Int) (x : Int) : (swapL l x).length = l.length := by simp [swapL]
theorem swapL_ring {l : List Int} (h : Tell l) {x : Int} (hx : x ∈ l) : Ring (swapL l x) := by
  have hi := List.idxOf_lt_length_of_mem hx
  exact cutL_ring (swp_tell h hi (Nat.mod_lt _ (by omega)))

theorem cut_turned (m m' : List Int) (p : Nat) (hl : m'.length = m.length) (hd : m.Nodup) (h0 : (0 : Int) ∈ m) (h0' : (0 : Int) ∈ m')
    (h : ∀ k, k < m.length → m'.getD k 0 = m.getD ((k + p) % m.length) 0) : cutL m' 0 = cutL m 0 := by
  have hi := List.idxOf_lt_length_of_mem h0
  have hi' := List.idxOf_lt_length_of_mem h0'
  have hq : (m'.idxOf 0 + p) % m.length = m.idxOf 0 := by
    have e := h (m'.idxOf 0) (by omega)
    rw [at_idx m' 0 h0'] at e
    have hlt : (m'.idxOf 0 + p) % m.length < m.length := Nat.mod_lt _ (by omega)
    have e2 : m[(m'.idxOf 0 + p) % m.length] = 0 := by simpa [List.getD, hlt] using e.symm
    have := hd.idxOf_getElem _ hlt
    rw [e2] at this
    exact this.symm
  refine ext_getD _ _ (by simp [hl]) fun k hk => ?_
  have hk' : k < m.length := by simpa [hl] using hk
  rw [cutL_get m' 0 k (by omega), cutL_get m 0 k hk', hl, h _ (Nat.mod_lt _ (by omega))]
  congr 1
  rw [Nat.mod_add_mod, ← hq, Nat.mod_add_mod]
  congr 1
  omega

theorem swap_spec {l : List Int} (h : Tell l) {x : Int} (hx : x ∈ l) : cutL (swp (cutL l x) 0 1) 0 = swapL l x := by
  have hi := List.idxOf_lt_length_of_mem hx
  have h3 := h.1
  have hc := cutL_tell h hx
  have hj : (l.idxOf x + 1) % l.length < l.length := Nat.mod_lt _ (by omega)
  have t1 := swp_tell hc (i := 0) (j := 1) (by simp; omega) (by simp; omega)
  have t2 := swp_tell h hi hj
  refine cut_turned _ _ (l.idxOf x) (by simp) t2.2.2.2 t2.zero t1.zero fun k hk => ?_
  have hk' : k < l.length := by simpa using hk
  simp only [swp_length]
  rw [swp_get _ 0 1 k (by simp; omega) (by simp; omega) (by simpa using hk'), cutL_get l x 0 (by omega), cutL_get l x 1 (by omega), cutL_get l x k hk']
  rw [swp_get l _ _ _ hi hj (Nat.mod_lt _ (by omega))]
  rw [show l.idxOf x + 0 = l.idxOf x by omega, Nat.mod_eq_of_lt hi]
  have key : ∀ a b : Nat, a < l.length → b < l.length → (l.idxOf x + a) % l.length = (l.idxOf x + b) % l.length → a = b := by
    intro a b ha hb e
    have e2 : ∀ q, q < l.length → (l.idxOf x + q) % l.length = if l.idxOf x + q < l.length then l.idxOf x + q else l.idxOf x + q - l.length := by
      intro q hq
      split
      · exact Nat.mod_eq_of_lt (by assumption)
      · rw [Nat.mod_eq_sub_mod (by omega), Nat.mod_eq_of_lt (by omega)]
    rw [e2 a ha, e2 b hb] at e
    split at e <;> split at e <;> omega
  have e1 : (k + l.idxOf x) % l.length = (l.idxOf x + 1) % l.length ↔ k = 1 :=
    ⟨fun e => key k 1 hk' (by omega) (by rw [← e, Nat.add_comm]), fun e => by rw [e, Nat.add_comm]⟩
  have e0 : (k + l.idxOf x) % l.length = l.idxOf x ↔ k = 0 :=
    ⟨fun e => key k 0 hk' (by omega) (by rw [show l.idxOf x + 0 = l.idxOf x by omega, Nat.mod_eq_of_lt hi, Nat.add_comm]; exact e), fun e => by rw [e, Nat.zero_add, Nat.mod_eq_of_lt hi]⟩
  simp only [e1, e0]
  rw [Nat.add_comm k]
end Go.Proofs.YthpomflpnmddoaaGreatDoor
