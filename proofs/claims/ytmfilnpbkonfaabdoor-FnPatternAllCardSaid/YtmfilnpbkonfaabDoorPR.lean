/- Several texts as one: Has CutT Next StepsT SwM Of From Back BackT RingM Num NumT ByM Rank. -/
import Derived.Test.YtmfilnpbkonfaabDoorMA
import Derived.IntWalk
import Derived.Test.YtmfilnpbkonfaabDoorCount
namespace Go.Proofs.YtmfilnpbkonfaabDoor
open Go.ChangeShapes Go.WideShapes Go.ChangeAt Go.RowKit

/-- A ring and a point of it. -/
def hasB (l : List Int) (x : Int) : Bool := ringB l && decide (0 ≤ x ∧ x < l.length)

theorem hasB_yes {l : List Int} {x : Int} (h : hasB l x = true) : Ring l ∧ 0 ≤ x ∧ x < l.length ∧ x ∈ l := by
  simp only [hasB, ringB, Bool.and_eq_true, decide_eq_true_eq] at h
  exact ⟨h.1, h.2.1, h.2.2, h.1.1.has h.2.1 h.2.2⟩
end Go.Proofs.YtmfilnpbkonfaabDoor

namespace Go.Proofs.YtmfilnpbkonfaabDoor
open Go.ChangeShapes Go.WideShapes Go.ChangeAt Go.RowKit

def cutR (l : List Int) (x : Int) : List Int := if hasB l x then cutL l x else []
theorem cutR_length (l : List Int) (x : Int) : (cutR l x).length ≤ 7 := by
  unfold cutR
  split
  · rename_i h; rw [cutL_length]; exact (hasB_yes h).1.1.2.1
  · simp
theorem cutL_pos (l : List Int) (x : Int) (h : Tell l) : ∀ y ∈ cutL l x, 0 ≤ y := fun y hy => by
  obtain ⟨i, _, rfl⟩ := List.mem_map.1 hy
  exact h.pos _ (getD_mem l _ (Nat.mod_lt _ (by have := h.1; omega)))

end Go.Proofs.YtmfilnpbkonfaabDoor

namespace Go.Proofs.YtmfilnpbkonfaabDoor
open Go.ChangeShapes Go.WideShapes Go.ChangeAt Go.RowKit

theorem box_world (w : World) (c : Array Value) (P : List Int) (hc : c = (ints P).toArray) (W : World) (hW : W = w.alloc (.cells c 48)) :
    Arr W w.heap.size P ∧ Below w.heap.size w W ∧ W.heap.size = w.heap.size + 1 := by
  subst hc; subst hW
  exact ⟨heap_alloc_new w _, (Below.refl _ _).alloc (Nat.le_refl _) _, by simp⟩


/-- The steps from x to y. -/
def stepsI (l : List Int) (x y : Int) : Int := ((l.idxOf y : Int) - (l.idxOf x : Int)) % (l.length : Int)

end Go.Proofs.YtmfilnpbkonfaabDoor

namespace Go.Proofs.YtmfilnpbkonfaabDoor
open Go.ChangeShapes Go.WideShapes Go.ChangeAt Go.RowKit

/-- Two points of a ring. -/
def hasB2 (l : List Int) (x y : Int) : Bool := hasB l x && hasB l y
def stepsR (l : List Int) (x y : Int) : Int := if hasB2 l x y then stepsI l x y else 0

end Go.Proofs.YtmfilnpbkonfaabDoor

namespace Go.Proofs.YtmfilnpbkonfaabDoor

/-- Two places exchanged. -/
def swp (m : List Int) (i j : Nat) : List Int := (m.set i (m.getD j 0)).set j (m.getD i 0)
@[simp] theorem swp_length (m : List Int) (i j : Nat) : (swp m i j).length = m.length := by simp [swp]
theorem swp_get (m : List Int) (i j k : Nat) (hi : i < m.length) (hj : j < m.length) (_ : k < m.length) : (swp m i j).getD k 0 = if k = j then m.getD i 0 else if k = i then m.getD j 0 else m.getD k 0 := by
  unfold swp
  simp only [List.getD]
  rw [List.getElem?_set, List.getElem?_set]
  by_cases h : k = j
  · subst h; simp [hj]
  · rw [if_neg (by omega), if_neg h]
    by_cases h' : k = i
    · subst h'; simp [hi]
    · rw [if_neg (by omega), if_neg h']
theorem swp_mem (m : List Int) (i j : Nat) (hi : i < m.length) (hj : j < m.length) (x : Int) : x ∈ swp m i j ↔ x ∈ m := by
  constructor
  · intro h
    obtain ⟨k, hk, e⟩ := List.getElem_of_mem h
    have hk' : k < m.length := by simpa using hk
    have e2 : (swp m i j).getD k 0 = x := by simp [List.getD, hk', e]
    rw [swp_get m i j k hi hj hk'] at e2
    rw [← e2]
    split
    · exact getD_mem m i hi
    · split
      · exact getD_mem m j hj
      · exact getD_mem m k hk'
  · intro h
    obtain ⟨k, hk, e⟩ := List.getElem_of_mem h
    have e0 : m.getD k 0 = x := by simp [List.getD, hk, e]
    have hin : ∀ q, q < m.length → (swp m i j).getD q 0 ∈ swp m i j := fun q hq => getD_mem _ q (by simpa using hq)
    by_cases h1 : k = i
    · have h2 := hin j hj
      rw [swp_get m i j j hi hj hj, if_pos rfl] at h2
      rw [← h1, e0] at h2
      subst h1
      exact h2
    · by_cases h2 : k = j
      · have h3 := hin i hi
        rw [swp_get m i j i hi hj hi] at h3
        by_cases h4 : i = j
        · omega
        · rw [if_neg h4, if_pos rfl] at h3
          rw [← h2, e0] at h3
          subst h2
          exact h3
      · have h3 := hin k hk
        rw [swp_get m i j k hi hj hk, if_neg h2, if_neg h1, e0] at h3
        exact h3

theorem nodup_of_mem (a b : List Int) (hl : a.length = b.length) (hb : Tell b) (h : ∀ x, x ∈ b → x ∈ a) : Tell a := by
  have hall : ∀ j : Nat, j < a.length → (j : Int) ∈ a := fun j hj => h _ (hb.has (by omega) (by omega))
  obtain ⟨h1, h2⟩ := nodup_of_all a.length a rfl hall
  exact ⟨by rw [hl]; exact hb.1, by rw [hl]; exact hb.2.1, h2, h1⟩
theorem swp_tell {l : List Int} (h : Tell l) {i j : Nat} (hi : i < l.length) (hj : j < l.length) : Tell (swp l i j) :=
  nodup_of_mem _ l (by simp) h fun x hx => (swp_mem l i j hi hj x).2 hx
theorem cutL_mem (l : List Int) (x y : Int) (hx : x ∈ l) : y ∈ cutL l x ↔ y ∈ l := by
  have hi := List.idxOf_lt_length_of_mem hx
  constructor
  · intro h
    obtain ⟨k, hk, e⟩ := List.getElem_of_mem h
    have hk' : k < l.length := by simpa using hk
    have e2 : (cutL l x).getD k 0 = y := by simp [List.getD, hk', e]
    rw [cutL_get l x k hk'] at e2
    rw [← e2]
    exact getD_mem l _ (Nat.mod_lt _ (by omega))
  · intro h
    obtain ⟨k, hk, e⟩ := List.getElem_of_mem h
    have e0 : l.getD k 0 = y := by simp [List.getD, hk, e]
    have hq : (k + (l.length - l.idxOf x)) % l.length < l.length := Nat.mod_lt _ (by omega)
    have h2 := getD_mem (cutL l x) _ (by simpa using hq)
    rw [cutL_get l x _ hq] at h2
    have e3 : (l.idxOf x + (k + (l.length - l.idxOf x)) % l.length) % l.length = k := by
      rw [Nat.add_mod_mod, show l.idxOf x + (k + (l.length - l.idxOf x)) = k + l.length by omega, Nat.add_mod_right, Nat.mod_eq_of_lt hk]
    rw [e3, e0] at h2
    exact h2
theorem cutL_tell {l : List Int} {x : Int} (h : Tell l) (hx : x ∈ l) : Tell (cutL l x) :=
  nodup_of_mem _ l (by simp) h fun y hy => (cutL_mem l x y hx).2 hy
theorem cutL_ring {l : List Int} (h : Tell l) : Ring (cutL l 0) := by
  refine ⟨cutL_tell h h.zero, ?_⟩
  have h3 := h.1
  rw [cutL_get l 0 0 (by omega)]
  have hi := List.idxOf_lt_length_of_mem h.zero
  rw [show l.idxOf 0 + 0 = l.idxOf 0 by omega, Nat.mod_eq_of_lt hi]
  exact at_idx l 0 h.zero

/-- The ring in which x and the one behind it are exchanged. -/
def swapL (l : List Int) (x : Int) : List Int := cutL (swp l (l.idxOf x) ((l.idxOf x + 1) % l.length)) 0
@[simp] theorem swapL_length (l : List Int) (x : Int) : (swapL l x).length = l.length := by simp [swapL]
theorem swapL_ring {l : List Int} (h : Tell l) {x : Int} (hx : x ∈ l) : Ring (swapL l x) := by
  have hi := List.idxOf_lt_length_of_mem hx
  exact cutL_ring (swp_tell h hi (Nat.mod_lt _ (by omega)))

theorem cut_turned (m m' : List Int) (p : Nat) (hl : m'.length = m.length) (hd : m.Nodup) (h0 : (0 : Int) ∈ m) (h0' : (0 : Int) ∈ m')
    (h : ∀ k, k < m.length → m'.getD k 0 = m.getD ((k + p) % m.length) 0) : cutL m' 0 = cutL m 0 := by
  have hi := List.idxOf_lt_length_of_mem h0
  have hi' := List.idxOf_lt_length_of_mem h0'
  have hq : (m'.idxOf 0 + p) % m.length = m.idxOf 0 := by
    have e := h (m'.idxOf 0) (by omega)
    rw [at_idx m' 0 h0'] at e
    have hlt : (m'.idxOf 0 + p) % m.length < m.length := Nat.mod_lt _ (by omega)
    have e2 : m[(m'.idxOf 0 + p) % m.length] = 0 := by simpa [List.getD, hlt] using e.symm
    have := hd.idxOf_getElem _ hlt
    rw [e2] at this
    exact this.symm
  refine ext_getD _ _ (by simp [hl]) fun k hk => ?_
  have hk' : k < m.length := by simpa [hl] using hk
  rw [cutL_get m' 0 k (by omega), cutL_get m 0 k hk', hl, h _ (Nat.mod_lt _ (by omega))]
  congr 1
  rw [Nat.mod_add_mod, ← hq, Nat.mod_add_mod]
  congr 1
  omega

theorem swap_spec {l : List Int} (h : Tell l) {x : Int} (hx : x ∈ l) : cutL (swp (cutL l x) 0 1) 0 = swapL l x := by
  have hi := List.idxOf_lt_length_of_mem hx
  have h3 := h.1
  have hc := cutL_tell h hx
  have hj : (l.idxOf x + 1) % l.length < l.length := Nat.mod_lt _ (by omega)
  have t1 := swp_tell hc (i := 0) (j := 1) (by simp; omega) (by simp; omega)
  have t2 := swp_tell h hi hj
  refine cut_turned _ _ (l.idxOf x) (by simp) t2.2.2.2 t2.zero t1.zero fun k hk => ?_
  have hk' : k < l.length := by simpa using hk
  simp only [swp_length]
  rw [swp_get _ 0 1 k (by simp; omega) (by simp; omega) (by simpa using hk'), cutL_get l x 0 (by omega), cutL_get l x 1 (by omega), cutL_get l x k hk']
  rw [swp_get l _ _ _ hi hj (Nat.mod_lt _ (by omega))]
  rw [show l.idxOf x + 0 = l.idxOf x by omega, Nat.mod_eq_of_lt hi]
  have key : ∀ a b : Nat, a < l.length → b < l.length → (l.idxOf x + a) % l.length = (l.idxOf x + b) % l.length → a = b := by
    intro a b ha hb e
    have e2 : ∀ q, q < l.length → (l.idxOf x + q) % l.length = if l.idxOf x + q < l.length then l.idxOf x + q else l.idxOf x + q - l.length := by
      intro q hq
      split
      · exact Nat.mod_eq_of_lt (by assumption)
      · rw [Nat.mod_eq_sub_mod (by omega), Nat.mod_eq_of_lt (by omega)]
    rw [e2 a ha, e2 b hb] at e
    split at e <;> split at e <;> omega
  have e1 : (k + l.idxOf x) % l.length = (l.idxOf x + 1) % l.length ↔ k = 1 :=
    ⟨fun e => key k 1 hk' (by omega) (by rw [← e, Nat.add_comm]), fun e => by rw [e, Nat.add_comm]⟩
  have e0 : (k + l.idxOf x) % l.length = l.idxOf x ↔ k = 0 :=
    ⟨fun e => key k 0 hk' (by omega) (by rw [show l.idxOf x + 0 = l.idxOf x by omega, Nat.mod_eq_of_lt hi, Nat.add_comm]; exact e), fun e => by rw [e, Nat.zero_add, Nat.mod_eq_of_lt hi]⟩
  simp only [e1, e0]
  rw [Nat.add_comm k]
end Go.Proofs.YtmfilnpbkonfaabDoor

namespace Go.Proofs.YtmfilnpbkonfaabDoor
open Go.ChangeShapes Go.WideShapes Go.ChangeAt Go.RowKit

def ofR (l : List Int) : List Int := if Tell l then cutL l 0 else []
theorem ofR_length (l : List Int) : (ofR l).length ≤ 7 := by
  unfold ofR
  split
  · rename_i h; rw [cutL_length]; exact h.2.1
  · simp

theorem readP_length (l : List Int) : (readP l).length = 7 := by
  unfold readP
  split
  · rename_i h; exact padR_length l h.2.1
  · rfl

end Go.Proofs.YtmfilnpbkonfaabDoor

namespace Go.Proofs.YtmfilnpbkonfaabDoor
open Go.ChangeShapes Go.WideShapes Go.ChangeAt Go.RowKit

theorem own_keep {w w' : World} {B D : Nat} {v : Value} {l : List Int} (h : Own w B v l) (hb : Below D w w') (hD : ∀ k, v.ownBlock = some k → k < D) : Own w' B v l := by
  refine ⟨h.1, ?_⟩
  rcases h.2 with e | ⟨g, cap, cur, hv, hg, hh, r⟩
  · exact .inl e
  · exact .inr ⟨g, cap, cur, hv, hg, by rw [hb.block g (hD g (by rw [hv]; rfl))]; exact hh, r⟩
theorem own_head {w : World} {B : Nat} {v : Value} {l : List Int} (h : Own w B v l) (hl : 0 < l.length) :
    ∃ g cap, v = .slice (some ⟨g, 0, none⟩) l.length cap ∧ l.length ≤ cap ∧ ∀ k, k < l.length → w.cell? ⟨g, k, none⟩ = some (.int .i64 (l.getD k 0)) := by
  rcases h.2 with ⟨_, h0⟩ | ⟨g, cap, cur, rfl, hg, hh, hnc, hcm, hcs, ht⟩
  · omega
  · refine ⟨g, cap, rfl, hnc, fun k hk => ?_⟩
    rw [h.cellAt k (by omega), ints_get _ _ hk]
theorem ownG_less {w : World} {B B' : Nat} {v : Value} {l : List Int} (h : OwnG w B v l) (hB : B' ≤ B) : OwnG w B' v l := by
  rcases h with h | ⟨g, o, c, cur, hv, hg, r⟩
  · exact .inl h
  · exact .inr ⟨g, o, c, cur, hv, Nat.le_trans hB hg, r⟩

/-- Where the points between x and y end on the list that begins with x. -/
def endN (l : List Int) (x y : Int) : Nat := if x = y then l.length else (stepsI l x y).toNat
def fromL (l : List Int) (x y : Int) : List Int := ((cutL l x).take (endN l x y)).drop 1
def fromR (l : List Int) (x y : Int) : List Int := if hasB2 l x y then fromL l x y else []

theorem steps_zero (l : List Int) (x y : Int) (ht : Tell l) (hx : x ∈ l) (hy : y ∈ l) : (stepsI l x y = 0 ↔ x = y) ∧ 0 ≤ stepsI l x y ∧ stepsI l x y < l.length := by
  have hix := List.idxOf_lt_length_of_mem hx
  have hiy := List.idxOf_lt_length_of_mem hy
  have h3 := ht.1
  unfold stepsI
  refine ⟨⟨fun h => ?_, fun h => by subst h; simp⟩, Int.emod_nonneg _ (by omega), Int.emod_lt_of_pos _ (by omega)⟩
  have hd := Int.dvd_of_emod_eq_zero h
  obtain ⟨k, hk⟩ := hd
  have hk0 : k = 0 := by
    rcases Int.lt_trichotomy k 0 with hlt | h0 | hgt
    · exfalso
      have : (l.length : Int) * k ≤ (l.length : Int) * (-1) := Int.mul_le_mul_of_nonneg_left (by omega) (by omega)
      omega
    · exact h0
    · exfalso
      have : (l.length : Int) * 1 ≤ (l.length : Int) * k := Int.mul_le_mul_of_nonneg_left (by omega) (by omega)
      omega
  rw [hk0] at hk
  have e : l.idxOf x = l.idxOf y := by omega
  rw [← at_idx l x hx, e, at_idx l y hy]

theorem endN_of (l : List Int) (x y : Int) (ht : Tell l) (hx : x ∈ l) (hy : y ∈ l) :
    1 ≤ endN l x y ∧ endN l x y ≤ l.length ∧ (if stepsI l x y = 0 then (endN l x y : Int) = l.length else (endN l x y : Int) = stepsI l x y) := by
  obtain ⟨h1, h2, h3⟩ := steps_zero l x y ht hx hy
  have h4 := ht.1
  unfold endN
  by_cases e : x = y
  · rw [if_pos e, if_pos (h1.2 e)]
    omega
  · have hne : ¬ stepsI l x y = 0 := fun h => e (h1.1 h)
    rw [if_neg e, if_neg hne]
    omega
theorem fromL_length (l : List Int) (x y : Int) (h : endN l x y ≤ (cutL l x).length) : (fromL l x y).length = endN l x y - 1 := by
  unfold fromL
  rw [List.length_drop, List.length_take]
  omega
theorem fromL_get (l : List Int) (x y : Int) (j : Nat) (hj : j < endN l x y - 1) (_ : endN l x y ≤ (cutL l x).length) : (fromL l x y).getD j 0 = (cutL l x).getD (1 + j) 0 := by
  unfold fromL
  simp only [List.getD, List.getElem?_drop, List.getElem?_take]
  rw [if_pos (by omega)]
theorem fromR_length (l : List Int) (x y : Int) : (fromR l x y).length ≤ 7 := by
  unfold fromR
  split
  · rename_i h
    simp only [hasB2, Bool.and_eq_true] at h
    have h3 := hasB_yes h.1
    have := h3.1.1.2.1
    unfold fromL
    rw [List.length_drop, List.length_take, cutL_length]
    omega
  · simp

end Go.Proofs.YtmfilnpbkonfaabDoor

namespace Go.Proofs.YtmfilnpbkonfaabDoor
open Go.ChangeShapes Go.WideShapes Go.ChangeAt Go.RowKit

/-- The list gone round the other way from its first point. -/
def backL (l : List Int) : List Int := (List.range l.length).map fun i => l.getD ((l.length - i) % l.length) 0
@[simp] theorem backL_length (l : List Int) : (backL l).length = l.length := by simp [backL]
theorem backL_get (l : List Int) (k : Nat) (hk : k < l.length) : (backL l).getD k 0 = l.getD ((l.length - k) % l.length) 0 := by
  simp [backL, List.getD, hk]

/-- The array half gone back. -/
def backK (l : List Int) (k : Nat) : List Int := (backL l).take k ++ (padR l).drop k
theorem backK_length (l : List Int) (k : Nat) (hk : k ≤ l.length) (h7 : l.length ≤ 7) : (backK l k).length = 7 := by
  have := padR_length l h7
  simp [backK]; omega
theorem backK_step (l : List Int) (k : Nat) (hk : k < l.length) (h7 : l.length ≤ 7) : (backK l k).set k (l.getD ((l.length - k) % l.length) 0) = backK l (k + 1) := by
  rw [← backL_get l k hk]
  unfold backK
  have hl : ((backL l).take k).length = k := by simp; omega
  have hp := padR_length l h7
  rw [List.set_append_right _ _ (by omega), hl, Nat.sub_self, List.drop_eq_getElem_cons (by omega : k < (padR l).length), List.set_cons_zero]
  rw [List.take_succ_eq_append_getElem (by simpa using hk), List.append_assoc]
  simp [List.getD, hk]
theorem backK_full (l : List Int) : backK l l.length = padR (backL l) := by
  unfold backK padR
  rw [List.take_of_length_le (by simp), List.drop_append, backL_length]
  simp
theorem backK_one (l : List Int) (h1 : 1 ≤ l.length) (h7 : l.length ≤ 7) : backK l 1 = padR l := by
  have hp := padR_length l h7
  have h0 : (backK l 0) = padR l := by simp [backK]
  have hs := backK_step l 0 (by omega) h7
  rw [h0, Nat.sub_zero, Nat.mod_self] at hs
  rw [← hs]
  apply ext_getD _ _ (by simp)
  intro k hk
  by_cases e : k = 0
  · subst e
    have := padR_get l 0 (by omega)
    simp only [List.getD_eq_getElem?_getD, List.getElem?_set, if_true] at this ⊢
    rw [if_pos (by omega)]
    exact this.symm
  · simp [List.getD_eq_getElem?_getD, Ne.symm e]

/-- The world of back before its loop: the box, the room for the result, a callee's box, the copy. -/
theorem back_world (w : World) (c z : Array Value) (P Z : List Int) (hc : c = (ints P).toArray) (hz : z = (ints Z).toArray) (W : World)
    (hW : W = (((w.alloc (.cells c 48)).alloc (.cells z 48)).alloc (.cells c 48)).alloc (.cells c 48)) :
    Arr W w.heap.size P ∧ Arr W (w.heap.size + 1) Z ∧ Arr W (w.heap.size + 1 + 1 + 1) P ∧ Below w.heap.size w W ∧ W.heap.size = w.heap.size + 4 := by
  subst hc; subst hz; subst hW
  refine ⟨?_, ?_, ?_, ?_, by simp⟩
  · have h : Arr (w.alloc (.cells (ints P).toArray 48)) w.heap.size P := heap_alloc_new w _
    exact ((h.alloc _).alloc _).alloc _
  · have h : Arr ((w.alloc (.cells (ints P).toArray 48)).alloc (.cells (ints Z).toArray 48)) (w.heap.size + 1) Z := heap_alloc2_new w _ _
    exact (h.alloc _).alloc _
  · have := heap_alloc_new (((w.alloc (.cells (ints P).toArray 48)).alloc (.cells (ints Z).toArray 48)).alloc (.cells (ints P).toArray 48)) (.cells (ints P).toArray 48)
    simp only [World.alloc, Array.size_push] at this ⊢
    exact this
  · exact ((((Below.refl _ _).alloc (Nat.le_refl _) _).alloc (by simp) _).alloc (by simp; omega) _).alloc (by simp; omega) _

set_option maxHeartbeats 1000000 in
theorem back_any (l : List Int) (w : World) (h1 : 1 ≤ l.length) (hl : l.length ≤ 7) (hp : ∀ x ∈ l, 0 ≤ x) :
    Calls Tryd.prog 48 #[agp l] w fun e w' => e = .returned (agp (backL l)) ∧ Below w.heap.size w w' := by
  obtain ⟨a0, a1, a2, a3, a4, a5, a6, hP⟩ := seven (padR_length l hl)
  have HS := fun W => Lib.hid (size_any l W hl hp)
  have hz : backK l 1 = [a0, a1, a2, a3, a4, a5, a6] := by rw [backK_one l h1 hl, hP]
  have hga : ∀ k, k < l.length → ([a0, a1, a2, a3, a4, a5, a6] : List Int).getD k 0 = l.getD k 0 := fun k hk => by rw [← hP]; exact padR_get l k hk
  have HGA := Lib.hid hga
  unfold agp at HS ⊢
  rw [hP] at HS ⊢
  simp only [ints, List.map_cons, List.map_nil] at HS ⊢
  have hzz : (List.map (Value.int IntKind.i64) (padR (backL l))) = ints (backK l l.length) := by rw [backK_full]; rfl
  rw [hzz]
  clear hzz hP hp hga
  generalize hn : l.length = n at *
  have HN := Lib.hid hn
  have HZ := Lib.hid hz
  have HSS := Lib.hid HS
  clear hn hz HS
  go_enter Tryd.func48, Tryd.ntmps48
  go_wp2_with (go_at_call 64; refine ((HSS.out _).out).mono ?_; rintro e w' ⟨rfl, rfl⟩)
  obtain ⟨W, hW⟩ : ∃ W, W = (((w.alloc (.cells #[.int .i64 a0, .int .i64 a1, .int .i64 a2, .int .i64 a3, .int .i64 a4, .int .i64 a5, .int .i64 a6] 48)).alloc (.cells #[.int .i64 0, .int .i64 0, .int .i64 0, .int .i64 0, .int .i64 0, .int .i64 0, .int .i64 0] 48)).alloc (.cells #[.int .i64 a0, .int .i64 a1, .int .i64 a2, .int .i64 a3, .int .i64 a4, .int .i64 a5, .int .i64 a6] 48)).alloc (.cells #[.int .i64 a0, .int .i64 a1, .int .i64 a2, .int .i64 a3, .int .i64 a4, .int .i64 a5, .int .i64 a6] 48) := ⟨_, rfl⟩
  rw [← hW]
  obtain ⟨k1, k2, k3, k4, k5⟩ := back_world w _ _ [a0, a1, a2, a3, a4, a5, a6] zero7 rfl rfl W hW
  rw [← HZ.out] at k3
  have HB := Lib.hid k1
  have HR := Lib.hid k2
  have HG := Lib.hid k3
  clear k1 k2 k3 hW
  generalize hB : w.heap.size = B at *
  have HBB := Lib.hid hB
  clear hB k5
  go_loopw [5] (fun i wr => ∃ k : Nat, 1 ≤ k ∧ k ≤ n ∧ i = .int .i64 k ∧ Hid (Arr wr (B + 1 + 1 + 1) (backK l k)) ∧ Hid (Arr wr B [a0, a1, a2, a3, a4, a5, a6]) ∧ Hid (Arr wr (B + 1) zero7) ∧ Below B w wr) (fun i _ => n - (intOf i).toNat)
  case atStart => exact ⟨1, by omega, h1, rfl, HG, HB, HR, k4⟩
  case round =>
    obtain ⟨k, hk1, hk, rfl, hG, hB, hR, hbl⟩ := hrel
    clear HG HB HR k4
    by_cases hlt : k < n
    · have hcb := hB.out.cell (i := n - k) (by simp; omega)
      rw [HGA.out _ (by omega)] at hcb
      have hG7 := backK_length l k (by rw [HN.out]; exact hk) (by rw [HN.out]; exact hl)
      have hcg := hG.out.cell (i := k) (by rw [hG7]; omega)
      have hfg := hG.out.frozen k
      have hst := hG.out.set_ k (l.getD (n - k) 0)
      have hsp := backK_step l k (by rw [HN.out]; exact hlt) (by rw [HN.out]; exact hl)
      rw [HN.out, Nat.mod_eq_of_lt (by omega : n - k < n)] at hsp
      rw [hsp] at hst
      have HST := Lib.hid hst
      clear hst hG7 hsp
      generalize (backK l k).getD k 0 = old at hcg
      generalize l.getD (n - k) 0 = y at hcb HST
      go_wp2
      go_roundw
      case rel => exact ⟨k + 1, by omega, by omega, by go_num, HST, Lib.hid (hB.out.far (by simp; omega) _), Lib.hid (hR.out.far (by simp) _), hbl.setCell (by simp; omega) _⟩
      case measure => simp [intOf]; omega
    · obtain rfl : k = n := by omega
      have h7 : Hid ((backK l k).length = 7) := backK_length l k (by rw [HN.out]; exact hk) (by rw [HN.out]; exact hl)
      generalize hPR : backK l k = PR at *
      have HPR := Lib.hid hPR
      clear hPR
      go_wp2_with (first
        | (refine load_ring rfl _ rfl (B + 1 + 1 + 1) PR h7.out rfl hG ?_)
        | (refine store_ring rfl _ _ rfl (B + 1) zero7 PR rfl h7.out rfl rfl hR ?_; intro w6 HB6 hg6 _))
      try simp only [Exit.inBlock, Exit.then]
      exact ret_ring rfl (B + 1) PR h7.out rfl HB6 rfl ⟨by rw [HPR.out], by rw [HBB.out]; exact hbl.grown hg6 (by have := hbl.size; have := HBB.out; omega) (by simp)⟩
end Go.Proofs.YtmfilnpbkonfaabDoor

namespace Go.Proofs.YtmfilnpbkonfaabDoor
open Go.ChangeShapes Go.WideShapes Go.ChangeAt Go.RowKit

def backR (l : List Int) : List Int := if Ring l then backL l else []
theorem backR_length (l : List Int) : (backR l).length ≤ 7 := by
  unfold backR
  split
  · rename_i h; rw [backL_length]; exact h.1.2.1
  · simp
theorem backL_pos (l : List Int) (h : Tell l) : ∀ x ∈ backL l, 0 ≤ x := fun x hx => by
  obtain ⟨i, _, rfl⟩ := List.mem_map.1 hx
  exact h.pos _ (getD_mem l _ (Nat.mod_lt _ (by have := h.1; omega)))

set_option maxHeartbeats 1000000 in
theorem bkI_any (A : Option Addr) (n c H : Nat) (l : List Int) (w : World) (h : Rd w H A n l) (hH : H ≤ w.heap.size) (hn : n ≤ 1048576) (hnc : n ≤ c) (hcm : c ≤ 9223372036854775807) :
    Calls Tryd.prog 22 #[.slice A n c] w fun e w' => ∃ v, e = .returned (.tuple #[v, .bool (ringB l)]) ∧ Own w' w.heap.size v (backR l) ∧ Below w.heap.size w w' := by
  have hread := Lib.hid (readR_any A n c H l w h hH hn hnc hcm)
  have H7 := Lib.hid (ringP_length l)
  by_cases ht : Ring l
  · have hR : Hid (backR l = backL l) := by rw [Hid, backR, if_pos ht]
    have hP : Hid (ringP l = padR l) := by rw [Hid, ringP, if_pos ht]
    have hcut := fun W => Lib.hid (back_any l W (by have := ht.1.1; omega) ht.1.2.1 ht.1.pos)
    have hlist := fun W => Lib.hid (list_any (backL l) W (by have := ht.1.1; rw [backL_length]; omega) (by rw [backL_length]; exact ht.1.2.1) (backL_pos l ht.1))
    have HC := Lib.hid hcut
    have HLI := Lib.hid hlist
    rw [hR.out]
    rw [ring_yes ht] at hread ⊢
    rw [hP.out] at hread H7
    clear hcut hlist ht hR hP
    unfold agp at HC HLI
    generalize padR l = P at *
    generalize backL l = C at *
    generalize padR C = Q at *
    go_enter Tryd.func22, Tryd.ntmps22
    go_wp2_with fail
    refine hread.out.mono ?_
    rintro e W1 ⟨rfl, hb1⟩
    have HA := Lib.hid (new_ring W1)
    go_wp2_with (first
      | (refine store_ring rfl _ _ rfl W1.heap.size zero7 P rfl H7.out rfl rfl HA ?_; intro w2 HA2 hg2 hs2)
      | (refine load_ring rfl _ rfl W1.heap.size P H7.out rfl HA2 ?_))
    have hb2 := Lib.hid ((hb1.alloc hb1.size (.cells #[.int .i64 0, .int .i64 0, .int .i64 0, .int .i64 0, .int .i64 0, .int .i64 0, .int .i64 0] 48)).grown hg2 (by have := hb1.size; simp; omega) (by have := hb1.size; simp; omega))
    clear hg2 hs2 hb1
    refine ((HC.out _).out).mono ?_
    rintro e w3 ⟨rfl, hb3⟩
    have hb4 := Lib.hid (hb2.out.trans (hb3.mono hb2.out.size))
    clear hb3
    go_wp2_with fail
    refine ((HLI.out _).out).mono ?_
    rintro e w5 ⟨v, rfl, ho, hb5⟩
    have HO := Lib.hid (own_less ho hb4.out.size)
    have hb6 := Lib.hid (hb4.out.trans (hb5.mono hb4.out.size))
    clear ho hb5
    go_wp2
    go_ret2
    exact ⟨_, rfl, HO.out, hb6.out⟩
  · have hR : backR l = [] := by rw [backR, if_neg ht]
    rw [hR]
    rw [ring_no ht] at hread ⊢
    clear hR ht
    generalize ringP l = P at *
    go_enter Tryd.func22, Tryd.ntmps22
    go_wp2_with fail
    refine hread.out.mono ?_
    rintro e W1 ⟨rfl, hb1⟩
    have HA := Lib.hid (new_ring W1)
    go_wp2_with (refine store_ring rfl _ _ rfl W1.heap.size zero7 P rfl H7.out rfl rfl HA ?_; intro w2 HA2 hg2 hs2)
    have hb2 := (hb1.alloc hb1.size (.cells #[.int .i64 0, .int .i64 0, .int .i64 0, .int .i64 0, .int .i64 0, .int .i64 0, .int .i64 0] 48)).grown hg2 (by have := hb1.size; simp; omega) (by have := hb1.size; simp; omega)
    clear hg2 hs2 hb1
    go_ret2
    exact ⟨_, rfl, World.ownsRow_nil _ _ _ _, hb2⟩
end Go.Proofs.YtmfilnpbkonfaabDoor

namespace Go.Proofs.YtmfilnpbkonfaabDoor
open Go.ChangeShapes Go.WideShapes Go.ChangeAt Go.RowKit

theorem idxAt {l : List Int} (hn : l.Nodup) {i : Nat} (hi : i < l.length) : l.idxOf (l.getD i 0) = i := by
  have e : l.getD i 0 = l[i] := by simp [List.getD, hi]
  rw [e]
  exact hn.idxOf_getElem i hi
/-- The steps the other way. -/
theorem steps_back {l : List Int} (_ : Tell l) {x y : Int} (hx : x ∈ l) (hy : y ∈ l) (hne : l.idxOf x ≠ l.idxOf y) : stepsI l y x = (l.length : Int) - stepsI l x y := by
  have h1 := List.idxOf_lt_length_of_mem hx
  have h2 := List.idxOf_lt_length_of_mem hy
  unfold stepsI
  generalize l.idxOf x = p at *
  generalize l.idxOf y = q at *
  rcases Nat.lt_or_ge p q with hpq | hpq
  · rw [Int.emod_eq_of_lt (show (0 : Int) ≤ (q : Int) - p by omega) (by omega), ← Int.add_emod_right, Int.emod_eq_of_lt (by omega) (by omega)]; omega
  · rw [Int.emod_eq_of_lt (show (0 : Int) ≤ (p : Int) - q by omega) (by omega), ← Int.add_emod_right ((q : Int) - p), Int.emod_eq_of_lt (by omega) (by omega)]; omega
theorem backL_nodup' {l : List Int} (ht : Tell l) : (backL l).Nodup ∧ ∀ x, x ∈ l → (backL l).idxOf x = (l.length - l.idxOf x) % l.length := by
  have hn := ht.2.2.2
  have h3 := ht.1
  have hinj : (backL l).Nodup := by
    unfold backL List.Nodup
    rw [List.pairwise_map]
    refine List.Pairwise.imp_of_mem (R := (· < ·)) ?_ List.pairwise_lt_range
    intro a b ha hb hab e
    have ha' := List.mem_range.1 ha
    have hb' := List.mem_range.1 hb
    have m1 : (l.length - a) % l.length < l.length := Nat.mod_lt _ (by omega)
    have m2 : (l.length - b) % l.length < l.length := Nat.mod_lt _ (by omega)
    have q1 := idxAt hn m1
    have q2 := idxAt hn m2
    rw [e, q2] at q1
    have c2 : (l.length - b) % l.length = l.length - b := Nat.mod_eq_of_lt (by omega)
    by_cases h0 : a = 0
    · subst h0
      rw [Nat.sub_zero, Nat.mod_self, c2] at q1
      omega
    · rw [Nat.mod_eq_of_lt (show l.length - a < l.length by omega), c2] at q1
      omega
  refine ⟨hinj, fun x hx => ?_⟩
  have hi := List.idxOf_lt_length_of_mem hx
  have m1 : (l.length - l.idxOf x) % l.length < l.length := Nat.mod_lt _ (by omega)
  have hg := backL_get l _ m1
  have e : (l.length - (l.length - l.idxOf x) % l.length) % l.length = l.idxOf x := by
    by_cases h0 : l.idxOf x = 0
    · rw [h0, Nat.sub_zero, Nat.mod_self, Nat.sub_zero, Nat.mod_self]
    · rw [Nat.mod_eq_of_lt (show l.length - l.idxOf x < l.length by omega), show l.length - (l.length - l.idxOf x) = l.idxOf x by omega, Nat.mod_eq_of_lt hi]
  have ex : l.getD (l.idxOf x) 0 = x := by
    have := List.getElem_idxOf hi
    simp [List.getD, hi, this]
  rw [e, ex] at hg
  have := idxAt hinj (i := (l.length - l.idxOf x) % l.length) (by rw [backL_length]; exact m1)
  rw [hg] at this
  exact this
theorem backL_tell' {l : List Int} (h : Tell l) : Tell (backL l) := by
  refine ⟨by rw [backL_length]; exact h.1, by rw [backL_length]; exact h.2.1, fun x hx => ?_, (backL_nodup' h).1⟩
  obtain ⟨i, _, rfl⟩ := List.mem_map.1 hx
  rw [backL_length]
  exact h.2.2.1 _ (getD_mem l _ (Nat.mod_lt _ (by have := h.1; omega)))
theorem backL_ring' {l : List Int} (h : Ring l) : Ring (backL l) := ⟨backL_tell' h.1, by rw [backL_get l 0 (by have := h.1.1; omega), Nat.sub_zero, Nat.mod_self, h.2]⟩
theorem steps_backL {l : List Int} (ht : Tell l) {x y : Int} (hx : x ∈ l) (hy : y ∈ l) (hne : l.idxOf x ≠ l.idxOf y) : stepsI (backL l) x y = (l.length : Int) - stepsI l x y := by
  rw [← steps_back ht hx hy hne]
  have h1 := List.idxOf_lt_length_of_mem hx
  have h2 := List.idxOf_lt_length_of_mem hy
  unfold stepsI
  rw [(backL_nodup' ht).2 x hx, (backL_nodup' ht).2 y hy, backL_length]
  generalize l.idxOf x = p at *
  generalize l.idxOf y = q at *
  have hn := ht.1
  generalize l.length = n at *
  have c : ∀ r, r < n → ((n - r) % n : Nat) = if r = 0 then 0 else n - r := fun r hr => by
    by_cases h0 : r = 0
    · rw [if_pos h0, h0, Nat.sub_zero, Nat.mod_self]
    · rw [if_neg h0, Nat.mod_eq_of_lt (by omega)]
  rw [c p h1, c q h2]
  have e : ((if q = 0 then 0 else n - q : Nat) : Int) - ((if p = 0 then 0 else n - p : Nat) : Int) = ((p : Int) - q) ∨ ((if q = 0 then 0 else n - q : Nat) : Int) - ((if p = 0 then 0 else n - p : Nat) : Int) = ((p : Int) - q) + n ∨ ((if q = 0 then 0 else n - q : Nat) : Int) - ((if p = 0 then 0 else n - p : Nat) : Int) + n = ((p : Int) - q) := by
    split <;> split <;> omega
  rcases e with e | e | e
  · rw [e]
  · rw [e, Int.add_emod_right]
  · rw [← e, Int.add_emod_right]

theorem ofR_ring {l : List Int} (h : Ring l) : ofR l = l := by
  rw [ofR, if_pos h.1]; exact cut_zero l (idx_zero l (by have := h.1.1; omega) h.2)
theorem backL_back (l : List Int) : backL (backL l) = l := by
  refine ext_getD _ _ (by rw [backL_length, backL_length]) fun k hk => ?_
  rw [backL_length, backL_length] at hk
  rw [backL_get _ k (by rw [backL_length]; exact hk), backL_length, backL_get l _ (Nat.mod_lt _ (by omega))]
  congr 1
  by_cases h0 : k = 0
  · subst h0; simp
  · rw [Nat.mod_eq_of_lt (show l.length - k < l.length by omega), show l.length - (l.length - k) = k by omega, Nat.mod_eq_of_lt hk]
theorem backL_other {l : List Int} (h : Tell l) : backL l ≠ l := fun e => by
  have h3 := h.1
  have hg := backL_get l 1 (by omega)
  rw [e, Nat.mod_eq_of_lt (by omega)] at hg
  have a := idxAt h.2.2.2 (i := 1) (by omega)
  have b := idxAt h.2.2.2 (i := l.length - 1) (by omega)
  rw [hg, b] at a
  omega
theorem cutL_len (l : List Int) (x : Int) : (cutL l x).length = l.length := by simp [cutL]
theorem cutL_idx {l : List Int} {x y : Int} (h : Tell l) (hx : x ∈ l) (hy : y ∈ l) : (l.idxOf x + (cutL l x).idxOf y) % l.length = l.idxOf y ∧ (cutL l x).idxOf y < l.length := by
  have hm : y ∈ cutL l x := (cutL_mem l x y hx).2 hy
  have hi := List.idxOf_lt_length_of_mem hm
  rw [cutL_len] at hi
  have e := cutL_get l x ((cutL l x).idxOf y) hi
  rw [at_idx _ y hm] at e
  have hlt : (l.idxOf x + (cutL l x).idxOf y) % l.length < l.length := Nat.mod_lt _ (by omega)
  have := idxAt h.2.2.2 hlt
  rw [← e] at this
  exact ⟨this.symm, hi⟩
theorem cut_cut {l : List Int} {x y : Int} (h : Tell l) (hx : x ∈ l) (hy : y ∈ l) : cutL (cutL l x) y = cutL l y := by
  obtain ⟨e, hi⟩ := cutL_idx h hx hy
  refine ext_getD _ _ (by rw [cutL_len, cutL_len, cutL_len]) fun k hk => ?_
  rw [cutL_len, cutL_len] at hk
  have hn : 0 < l.length := by omega
  rw [cutL_get _ y k (by rw [cutL_len]; exact hk), cutL_get l y k hk, cutL_len, cutL_get l x _ (Nat.mod_lt _ hn)]
  congr 1
  rw [Nat.add_mod_mod, ← e, Nat.mod_add_mod]
  congr 1
  omega
theorem cut_head {l : List Int} (h : Tell l) : cutL l (l.getD 0 0) = l := by
  have h3 := h.1
  have e := idxAt h.2.2.2 (i := 0) (by omega)
  refine ext_getD _ _ (by rw [cutL_len]) fun k hk => ?_
  rw [cutL_len] at hk
  rw [cutL_get l _ k hk, e, Nat.zero_add, Nat.mod_eq_of_lt hk]
theorem cut_first {l : List Int} {x : Int} (hx : x ∈ l) : (cutL l x).getD 0 0 = x := by
  have hi := List.idxOf_lt_length_of_mem hx
  rw [cutL_get l x 0 (by omega), Nat.add_zero, Nat.mod_eq_of_lt hi, at_idx l x hx]
theorem hasB_of {l : List Int} {x : Int} (h : Ring l) (hx : x ∈ l) : hasB l x = true := by
  have := h.1.2.2.1 x hx
  rw [hasB, ring_yes h]
  simpa using this
theorem hasB_no {l : List Int} {x : Int} (h : hasB l x ≠ true) : hasB l x = false := by simpa using h
theorem idx_apart {l : List Int} {x y : Int} (hx : x ∈ l) (hy : y ∈ l) (hne : x ≠ y) : l.idxOf x ≠ l.idxOf y := fun e => by
  have h1 := List.getElem_idxOf (List.idxOf_lt_length_of_mem hx)
  have h2 := List.getElem_idxOf (List.idxOf_lt_length_of_mem hy)
  exact hne (by rw [← h1, ← h2]; simp only [e])
theorem backL_mem {l : List Int} {x : Int} (hx : x ∈ l) : x ∈ backL l := by
  have hi := List.idxOf_lt_length_of_mem hx
  have hn : 0 < l.length := by omega
  have m1 : (l.length - l.idxOf x) % l.length < l.length := Nat.mod_lt _ hn
  have hg := backL_get l _ m1
  have e : (l.length - (l.length - l.idxOf x) % l.length) % l.length = l.idxOf x := by
    by_cases h0 : l.idxOf x = 0
    · rw [h0, Nat.sub_zero, Nat.mod_self, Nat.sub_zero, Nat.mod_self]
    · rw [Nat.mod_eq_of_lt (show l.length - l.idxOf x < l.length by omega), show l.length - (l.length - l.idxOf x) = l.idxOf x by omega, Nat.mod_eq_of_lt hi]
  rw [e, at_idx l x hx] at hg
  rw [← hg]
  exact getD_mem _ _ (by rw [backL_length]; exact m1)
theorem hasB2_no {l : List Int} {x y : Int} (h : ¬ hasB2 l x y = true) : hasB2 l x y = false := by simpa using h
theorem hasB2_yes {l : List Int} {x y : Int} (h : hasB2 l x y = true) : hasB l x = true ∧ hasB l y = true := by simpa [hasB2] using h
end Go.Proofs.YtmfilnpbkonfaabDoor

namespace Go.Proofs.YtmfilnpbkonfaabDoor
open Go.ChangeShapes Go.WideShapes Go.ChangeAt Go.RowKit

/-- How many points between the places i and k are less than the one at i. -/
def cnt (l : List Int) (i : Nat) : Nat → Nat
  | 0 => 0
  | k + 1 => cnt l i k + if i < k ∧ l.getD k 0 < l.getD i 0 then 1 else 0
theorem cnt_le (l : List Int) (i k : Nat) : cnt l i k ≤ k := by
  induction k with
  | zero => simp [cnt]
  | succ k ih => rw [cnt]; split <;> omega
theorem cnt_start (l : List Int) (i : Nat) : ∀ k, k ≤ i + 1 → cnt l i k = 0
  | 0, _ => rfl
  | k + 1, h => by rw [cnt, cnt_start l i k (by omega), if_neg (by omega)]
theorem cnt_zero (l : List Int) (h0 : l.getD 0 0 = 0) (h : ∀ x ∈ l, 0 ≤ x) : ∀ k, k ≤ l.length → cnt l 0 k = 0
  | 0, _ => rfl
  | k + 1, hk => by
    rw [cnt, cnt_zero l h0 h k (by omega), if_neg]
    rintro ⟨_, hlt⟩
    have := h _ (getD_mem l k (by omega))
    omega
def numP (l : List Int) : Nat → Int
  | 0 => 0
  | m + 1 => numP l m + (cnt l m l.length : Int) * facN (l.length - 1 - m)
theorem facN_bd (m : Nat) : 1 ≤ facN m ∧ facN m ≤ 5040 := by
  match m with
  | 0 | 1 | 2 | 3 | 4 | 5 | 6 => simp [facN]
  | _ + 7 => simp [facN]
theorem prod_bd (c : Nat) (f : Int) (hc : c ≤ 7) (hf : 1 ≤ f ∧ f ≤ 5040) : 0 ≤ (c : Int) * f ∧ (c : Int) * f ≤ 35280 := by
  obtain rfl | rfl | rfl | rfl | rfl | rfl | rfl | rfl : c = 0 ∨ c = 1 ∨ c = 2 ∨ c = 3 ∨ c = 4 ∨ c = 5 ∨ c = 6 ∨ c = 7 := by omega
  all_goals omega
theorem numP_bd (l : List Int) (hl : l.length ≤ 7) : ∀ m, m ≤ 7 → 0 ≤ numP l m ∧ numP l m ≤ 35280 * m
  | 0, _ => by simp [numP]
  | m + 1, h => by
    have ih := numP_bd l hl m (by omega)
    have hb := prod_bd (cnt l m l.length) (facN (l.length - 1 - m)) (by have := cnt_le l m l.length; omega) (facN_bd _)
    rw [numP]
    push_cast
    omega

theorem facS_nat (m : Nat) (k : Int) (w : World) (hk : k = m) (hm : m ≤ 6) :
    Calls Tryd.prog 72 #[.int .i64 k] w fun e w' => e = .returned (.int .i64 (facN m)) ∧ w = w' := by
  subst hk
  have := facS_any (m : Int) w (by omega) (by omega)
  rwa [Int.toNat_natCast] at this
theorem facI_nat (m : Nat) (k : Int) (w : World) (hk : k = m) (hm : m ≤ 6) :
    Calls Tryd.prog 70 #[.int .i64 k] w fun e w' => e = .returned (.int .i64 (facN m)) ∧ w = w' := by
  subst hk
  have := facI_any (m : Int) w (by omega) (by omega)
  rwa [Int.toNat_natCast] at this

/-- A cut of an array between two places. -/
theorem slice_ring2 (W : World) (b m n : Nat) (hm : m ≤ n) (hn : n ≤ 7) :
    ∃ ad : Addr, (m < 7 → ad = ⟨b, m, none⟩) ∧
    (Instr.sliceAt 48 (.pointer (some ⟨b, 0, none⟩)) (some (.int .i64 (m : Int))) (some (.int .i64 (n : Int))) none).run Tryd.prog W = .ok (.slice (some ad) (n - m) (7 - m)) W := by
  obtain ⟨i, hi, _, hs, _⟩ := info_parts int_info
  have hal : Tryd.prog.arrayLen 48 = 7 := by kernel_rfl
  have hel : Tryd.prog.elem 48 = 3 := by kernel_rfl
  have h := run_sliceAt_array_lh (P := Tryd.prog) W 48 ⟨b, 0, none⟩ (by rw [hal, hel]; exact Tryd.underlying48) .i64 .i64 (m : Int) (n : Int) (by omega) (by omega) (by rw [hal]; omega)
  have hc : Tryd.prog.cellsOf 3 = 1 := cells_int
  refine ⟨if 7 = m then ⟨b, 0, none⟩ else (⟨b, 0, none⟩ : Addr).add (m * 1), fun hlt => ?_, ?_⟩
  · rw [if_neg (by omega), Nat.mul_one, Addr.add_lit, Nat.zero_add]
  · rw [h, hel, run_sizeOf W hi, Result.andThen_ok, hal, hc]
    simp [slicedAt]

set_option maxHeartbeats 2000000 in
theorem num_any (l : List Int) (w : World) (h1 : 1 ≤ l.length) (hl : l.length ≤ 7) (hp : ∀ x ∈ l, 0 ≤ x) :
    Calls Tryd.prog 51 #[agp l] w fun e w' => e = .returned (.int .i64 (numP l l.length)) ∧ Below w.heap.size w w' := by
  obtain ⟨a0, a1, a2, a3, a4, a5, a6, hP⟩ := seven (padR_length l hl)
  have HS := fun W => Lib.hid (size_any l W hl hp)
  have hga : ∀ k, k < l.length → ([a0, a1, a2, a3, a4, a5, a6] : List Int).getD k 0 = l.getD k 0 := fun k hk => by rw [← hP]; exact padR_get l k hk
  unfold agp at HS ⊢
  rw [hP] at HS ⊢
  simp only [ints, List.map_cons, List.map_nil] at HS ⊢
  have HSS := Lib.hid HS
  have HGA := Lib.hid hga
  clear hP hp HS hga
  generalize hn : l.length = n at *
  have HL := Lib.hid hn
  clear hn
  have hsl := fun W => slice_ring W w.heap.size n hl
  go_enter Tryd.func51, Tryd.ntmps51
  go_wp2_with (go_at_call 64; refine ((HSS.out _).out).mono ?_; rintro e w' ⟨rfl, rfl⟩)
  obtain ⟨W0, hW0⟩ : ∃ W, W = w.alloc (.cells #[.int .i64 a0, .int .i64 a1, .int .i64 a2, .int .i64 a3, .int .i64 a4, .int .i64 a5, .int .i64 a6] 48) := ⟨_, rfl⟩
  obtain ⟨W, hW⟩ : ∃ W, W = W0.alloc (.cells #[.int .i64 a0, .int .i64 a1, .int .i64 a2, .int .i64 a3, .int .i64 a4, .int .i64 a5, .int .i64 a6] 48) := ⟨_, rfl⟩
  rw [← hW0, ← hW]
  obtain ⟨k1, k2, k3⟩ := box_world w _ [a0, a1, a2, a3, a4, a5, a6] rfl W0 hW0
  have k4 : Arr W w.heap.size [a0, a1, a2, a3, a4, a5, a6] := by rw [hW]; exact k1.alloc _
  have HB := Lib.hid (show Below w.heap.size w W by rw [hW]; exact k2.alloc (by omega) _)
  have HA : Hid (∀ k, k < n → W.cell? ⟨w.heap.size, k, none⟩ = some (.int .i64 (l.getD k 0))) := fun k hk => by
    rw [← HGA.out k hk]
    exact k4.cell (by simp; omega)
  clear k1 k2 k3 k4 hW hW0 hsl HSS HGA
  generalize hB : w.heap.size = B at *
  have HBB := Lib.hid hB
  clear hB
  go_loop [4, 15] (fun s i => ∃ m : Nat, m ≤ n ∧ i = .int .i64 m ∧ s = .int .i64 (numP l m)) (fun _ i => n - (intOf i).toNat)
  case atStart => exact ⟨0, Nat.zero_le _, rfl, rfl⟩
  case round =>
    obtain ⟨m, hm, rfl, rfl⟩ := hrel
    by_cases hlt : m < n
    · obtain ⟨hq1, hq2⟩ := numP_bd l (by rw [HL.out]; exact hl) m (by omega)
      have HNX : Hid (numP l (m + 1) = numP l m + (cnt l m n : Int) * facN (n - 1 - m)) := by rw [Hid, numP, HL.out]
      have HPB := Lib.hid (prod_bd (cnt l m n) (facN (n - 1 - m)) (by have := cnt_le l m n; omega) (facN_bd _))
      obtain ⟨ad, had, hsa⟩ := slice_ring2 W B (m + 1) n (by omega) hl
      have hsa' : (Instr.sliceAt 48 (.pointer (some ⟨B, 0, none⟩)) (some (.int .i64 ((m : Int) + 1))) (some (.int .i64 (n : Int))) none).run Tryd.prog W = .ok (.slice (some ad) (n - (m + 1)) (7 - (m + 1))) W := by
        have e : (((m + 1 : Nat)) : Int) = (m : Int) + 1 := by omega
        rw [← e]; exact hsa
      have HAD := Lib.hid had
      have hcm := HA.out m hlt
      clear hsa had
      generalize hq : numP l m = q at *
      have HQ := Lib.hid hq
      clear hq
      generalize hy : l.getD m 0 = y at *
      have HY := Lib.hid hy
      clear hy
      go_wp2
      go_loop [7, 25] (fun s i => ∃ k : Nat, k ≤ n - (m + 1) ∧ i = .int .i64 k ∧ (∃ t : Nat, s = .int .i64 t ∧ t ≤ k ∧ Hid (t = cnt l m (m + 1 + k)))) (fun _ i => (n - (m + 1)) - (intOf i).toNat)
      case atStart => exact ⟨0, Nat.zero_le _, rfl, ⟨0, rfl, by omega, (cnt_start l m _ (Nat.le_refl _)).symm⟩⟩
      case round =>
        obtain ⟨k, hk, rfl, ⟨t, rfl, htk, ht⟩⟩ := hrel
        clear hsa'
        by_cases hlk : k < n - (m + 1)
        · have hadr := HAD.out (by omega)
          subst hadr
          have hc1 := HA.out (m + 1 + k) (by omega)
          have T : Hid (cnt l m (m + 1 + k + 1) = t + if l.getD (m + 1 + k) 0 < y then 1 else 0) := by
            rw [Hid, cnt, ← ht.out, HY.out]
            simp [show m < m + 1 + k by omega]
          generalize l.getD (m + 1 + k) 0 = x at hc1 T
          by_cases hxy : x < y
          · have T2 : Hid (t + 1 = cnt l m (m + 1 + (k + 1))) := by rw [Hid, ← Nat.add_assoc, T.out, if_pos hxy]
            clear T
            go_wp2
            go_round
            case rel => exact ⟨k + 1, by omega, by go_num, ⟨t + 1, by go_num, by omega, T2⟩⟩
            case measure => simp [intOf]; omega
          · have T2 : Hid (t = cnt l m (m + 1 + (k + 1))) := by rw [Hid, ← Nat.add_assoc, T.out, if_neg hxy, Nat.add_zero]
            clear T
            go_wp2
            go_round
            case rel => exact ⟨k + 1, by omega, by go_num, ⟨t, rfl, by omega, T2⟩⟩
            case measure => simp [intOf]; omega
        · have ht2 : Hid (t = cnt l m n) := by
            have := ht.out
            rwa [show m + 1 + k = n by omega] at this
          obtain ⟨f, hf⟩ : ∃ f, f = facN (n - 1 - m) := ⟨_, rfl⟩
          have HF := Lib.hid hf
          clear hf
          go_wp2_with fail
          refine (facI_nat (n - 1 - m) _ _ (by omega) (by omega)).mono ?_
          rintro e w' ⟨rfl, rfl⟩
          rw [← HF.out]
          obtain ⟨p, hp⟩ : ∃ p : Int, p = (t : Int) * f := ⟨_, rfl⟩
          have hpb : 0 ≤ p ∧ p ≤ 35280 := by rw [hp, ht2.out, HF.out]; exact HPB.out
          obtain ⟨hp0, hp1⟩ := hpb
          have hwp : wrap64 ((t : Int) * f) = p := by rw [← hp]; exact IntWalk.wrap64_in p ⟨by omega, by omega⟩
          have HNX2 : Hid (numP l (m + 1) = q + p) := by rw [Hid, HNX.out, hp, ht2.out, HF.out]
          clear hp
          go_wp2
          go_round
          case rel => exact ⟨m + 1, by omega, by go_num, by rw [HNX2.out]⟩
          case measure => simp [intOf]; omega
    · obtain rfl : m = n := by omega
      go_wp2
      go_ret
      exact ⟨rfl, by rw [HBB.out]; exact HB.out⟩
end Go.Proofs.YtmfilnpbkonfaabDoor

namespace Go.Proofs.YtmfilnpbkonfaabDoor
open Go.ChangeShapes Go.WideShapes Go.ChangeAt Go.RowKit

def numR (l : List Int) : Int := if Ring l then numP l l.length else 0

set_option maxHeartbeats 1000000 in
theorem nuI_any (A : Option Addr) (n c H : Nat) (l : List Int) (w : World) (h : Rd w H A n l) (hH : H ≤ w.heap.size) (hn : n ≤ 1048576) (hnc : n ≤ c) (hcm : c ≤ 9223372036854775807) :
    Calls Tryd.prog 24 #[.slice A n c] w fun e w' => e = .returned (.tuple #[.int .i64 (numR l), .bool (ringB l)]) ∧ Below w.heap.size w w' := by
  have hread := Lib.hid (readR_any A n c H l w h hH hn hnc hcm)
  have H7 := Lib.hid (ringP_length l)
  unfold numR
  by_cases ht : Ring l
  · have hP : Hid (ringP l = padR l) := by rw [Hid, ringP, if_pos ht]
    have hcut := fun W => Lib.hid (num_any l W (by have := ht.1.1; omega) ht.1.2.1 ht.1.pos)
    have HC := Lib.hid hcut
    rw [if_pos ht]
    rw [ring_yes ht] at hread ⊢
    rw [hP.out] at hread H7
    clear hcut ht hP
    unfold agp at HC
    generalize padR l = P at *
    generalize numP l l.length = r at *
    go_enter Tryd.func24, Tryd.ntmps24
    go_wp2_with fail
    refine hread.out.mono ?_
    rintro e W1 ⟨rfl, hb1⟩
    have HA := Lib.hid (new_ring W1)
    go_wp2_with (first
      | (refine store_ring rfl _ _ rfl W1.heap.size zero7 P rfl H7.out rfl rfl HA ?_; intro w2 HA2 hg2 hs2)
      | (refine load_ring rfl _ rfl W1.heap.size P H7.out rfl HA2 ?_))
    have hb2 := Lib.hid ((hb1.alloc hb1.size (.cells #[.int .i64 0, .int .i64 0, .int .i64 0, .int .i64 0, .int .i64 0, .int .i64 0, .int .i64 0] 48)).grown hg2 (by have := hb1.size; simp; omega) (by have := hb1.size; simp; omega))
    clear hg2 hs2 hb1
    refine ((HC.out _).out).mono ?_
    rintro e w3 ⟨rfl, hb3⟩
    have hb4 := Lib.hid (hb2.out.trans (hb3.mono hb2.out.size))
    clear hb3
    go_wp2
    go_ret2
    exact ⟨rfl, hb4.out⟩
  · rw [if_neg ht]
    rw [ring_no ht] at hread ⊢
    clear ht
    generalize ringP l = P at *
    go_enter Tryd.func24, Tryd.ntmps24
    go_wp2_with fail
    refine hread.out.mono ?_
    rintro e W1 ⟨rfl, hb1⟩
    have HA := Lib.hid (new_ring W1)
    go_wp2_with (refine store_ring rfl _ _ rfl W1.heap.size zero7 P rfl H7.out rfl rfl HA ?_; intro w2 HA2 hg2 hs2)
    have hb2 := (hb1.alloc hb1.size (.cells #[.int .i64 0, .int .i64 0, .int .i64 0, .int .i64 0, .int .i64 0, .int .i64 0, .int .i64 0] 48)).grown hg2 (by have := hb1.size; simp; omega) (by have := hb1.size; simp; omega)
    clear hg2 hs2 hb1
    go_ret2
    exact ⟨rfl, hb2⟩
end Go.Proofs.YtmfilnpbkonfaabDoor

namespace Go.Proofs.YtmfilnpbkonfaabDoor
open Go.ChangeShapes Go.WideShapes Go.ChangeAt Go.RowKit

/-- Points taken one by one out of those that are left, by a number. -/
def takeBy : Nat → List Int → Int → List Int
  | 0, _, _ => []
  | m + 1, left, k => left.getD (k / facN m).toNat 0 :: takeBy m (left.eraseIdx (k / facN m).toNat) (k % facN m)

def upFrom (a : Int) (n : Nat) : List Int := (List.range n).map fun i : Nat => a + (i : Int)
@[simp] theorem upFrom_length (a : Int) (n : Nat) : (upFrom a n).length = n := by simp [upFrom]
theorem upFrom_snoc (a : Int) (n : Nat) : upFrom a (n + 1) = upFrom a n ++ [a + (n : Int)] := by simp [upFrom, List.range_succ]
theorem upFrom_cons (a : Int) (n : Nat) : upFrom a (n + 1) = a :: upFrom (a + 1) n := by
  simp [upFrom, List.range_succ_eq_map, Function.comp_def]
  intro i _
  omega
theorem upFrom_get (a : Int) (n k : Nat) (h : k < n) : (upFrom a n).getD k 0 = a + k := by simp [upFrom, List.getD, h]

theorem facN_succ (m : Nat) (h : m ≤ 6) : facN (m + 1) = ((m + 1 : Nat) : Int) * facN m := by
  obtain rfl | rfl | rfl | rfl | rfl | rfl | rfl : m = 0 ∨ m = 1 ∨ m = 2 ∨ m = 3 ∨ m = 4 ∨ m = 5 ∨ m = 6 := by omega
  all_goals decide

/-- The place that a number tells among m + 1 points that are left. -/
theorem place_bd (m : Nat) (k : Int) (h : m ≤ 6) (h0 : 0 ≤ k) (hk : k < facN (m + 1)) : 0 ≤ k / facN m ∧ k / facN m ≤ m ∧ 0 ≤ k % facN m ∧ k % facN m < facN m := by
  have hf := (facN_bd m).1
  rw [facN_succ m h] at hk
  refine ⟨Int.ediv_nonneg h0 (by omega), ?_, Int.emod_nonneg _ (by omega), Int.emod_lt_of_pos _ (by omega)⟩
  have := Int.ediv_lt_of_lt_mul (by omega : 0 < facN m) hk
  omega

theorem takeBy_length (m : Nat) (left : List Int) (k : Int) : (takeBy m left k).length = m := by
  induction m generalizing left k with
  | zero => rfl
  | succ m ih => simp [takeBy, ih]
theorem takeBy_mem : ∀ (m : Nat) (left : List Int) (k : Int), m ≤ 7 → left.length = m → 0 ≤ k → k < facN m → ∀ x ∈ takeBy m left k, x ∈ left
  | 0, _, _, _, _, _, _, x, hx => by simp [takeBy] at hx
  | m + 1, left, k, hm, hl, h0, hk, x, hx => by
    obtain ⟨h1, h2, h3, h4⟩ := place_bd m k (by omega) h0 hk
    rcases List.mem_cons.1 hx with rfl | hx
    · exact getD_mem left _ (by omega)
    · exact List.mem_of_mem_eraseIdx (takeBy_mem m _ _ (by omega) (by rw [List.length_eraseIdx]; rw [if_pos (by omega)]; omega) h3 h4 x hx)

/-- The ring of n points with the number k. -/
def byL (n : Nat) (k : Int) : List Int := takeBy n (upFrom 0 n) k
theorem byL_length (n : Nat) (k : Int) : (byL n k).length = n := takeBy_length n _ _
theorem byL_eq (n : Nat) (k : Int) (h1 : 1 ≤ n) (h7 : n ≤ 7) (h0 : 0 ≤ k) (hk : k < facN (n - 1)) : byL n k = 0 :: takeBy (n - 1) (upFrom 1 (n - 1)) k := by
  obtain ⟨m, rfl⟩ : ∃ m, n = m + 1 := ⟨n - 1, by omega⟩
  simp only [Nat.add_sub_cancel] at hk ⊢
  have hd : k / facN m = 0 := Int.ediv_eq_zero_of_lt h0 hk
  have hm : k % facN m = k := Int.emod_eq_of_lt h0 hk
  unfold byL
  rw [takeBy, hd, hm, upFrom_cons]
  rfl
theorem byL_pos (n : Nat) (k : Int) (h7 : n ≤ 7) (h0 : 0 ≤ k) (hk : k < facN n) : ∀ x ∈ byL n k, 0 ≤ x := fun x hx => by
  have := takeBy_mem n _ k h7 (by simp) h0 hk x hx
  obtain ⟨i, _, rfl⟩ := List.mem_map.1 this
  omega

/-- A number of points, and a number that there is. -/
def byB (n k : Int) : Bool := decide (3 ≤ n ∧ n ≤ 7 ∧ 0 ≤ k ∧ k < facN (n.toNat - 1))
def byR (n k : Int) : List Int := if byB n k then byL n.toNat k else []
theorem byR_length (n k : Int) : (byR n k).length ≤ 7 := by
  unfold byR
  split
  · rename_i h
    simp only [byB, decide_eq_true_eq] at h
    rw [byL_length]; omega
  · simp
end Go.Proofs.YtmfilnpbkonfaabDoor

namespace Go.Proofs.YtmfilnpbkonfaabDoor
open Go.ChangeShapes Go.WideShapes Go.ChangeAt Go.RowKit

/-- How many of a list are less than x. -/
def lessN (t : List Int) (x : Int) : Nat := t.countP fun y => decide (y < x)
/-- The number that a list tells among all orders of its points. -/
def rk : List Int → Int
  | [] => 0
  | x :: t => (lessN t x : Int) * facN t.length + rk t
theorem lessN_perm {s t : List Int} (h : List.Perm s t) (x : Int) : lessN s x = lessN t x := h.countP_eq _
theorem lessN_place : ∀ (l : List Int) (p : Nat), l.Pairwise (· < ·) → p < l.length → lessN l (l.getD p 0) = p
  | [], p, _, h => absurd h (by simp)
  | y :: l, 0, hs, _ => by
    have h := (List.pairwise_cons.1 hs).1
    simp only [lessN, List.getD_cons_zero]
    rw [List.countP_eq_zero]
    intro z hz
    rcases List.mem_cons.1 hz with rfl | hz
    · simp
    · have := h z hz; simp; omega
  | y :: l, p + 1, hs, hp => by
    have h := List.pairwise_cons.1 hs
    have hp' : p < l.length := by simpa using hp
    have ih := lessN_place l p h.2 hp'
    have hy : y < l.getD p 0 := h.1 _ (getD_mem l p hp')
    simp only [lessN, List.getD_cons_succ] at ih ⊢
    rw [List.countP_cons_of_pos (by simpa using hy), ih]
theorem erase_sorted {l : List Int} {p : Nat} (h : l.Pairwise (· < ·)) : (l.eraseIdx p).Pairwise (· < ·) := h.sublist (List.eraseIdx_sublist l p)
theorem erase_perm : ∀ (l : List Int) (p : Nat), p < l.length → List.Perm (l.getD p 0 :: l.eraseIdx p) l
  | [], p, h => absurd h (by simp)
  | y :: l, 0, _ => by simp
  | y :: l, p + 1, h => by
    have ih := erase_perm l p (by simpa using h)
    simp only [List.getD_cons_succ, List.eraseIdx_cons_succ]
    exact (List.Perm.swap y _ _).trans (List.Perm.cons y ih)
theorem erase_len (l : List Int) (p m : Nat) (hl : l.length = m + 1) (hp : p ≤ m) : (l.eraseIdx p).length = m := by
  rw [List.length_eraseIdx, if_pos (by omega)]; omega
theorem takeBy_perm : ∀ (m : Nat) (left : List Int) (k : Int), m ≤ 7 → left.length = m → 0 ≤ k → k < facN m → List.Perm (takeBy m left k) left
  | 0, left, _, _, hl, _, _ => by rw [List.length_eq_zero_iff.1 hl]; exact List.Perm.refl _
  | m + 1, left, k, hm, hl, h0, hk => by
    obtain ⟨h1, h2, h3, h4⟩ := place_bd m k (by omega) h0 hk
    have ih := takeBy_perm m (left.eraseIdx (k / facN m).toNat) (k % facN m) (by omega) (erase_len left _ m hl (by omega)) h3 h4
    exact (List.Perm.cons _ ih).trans (erase_perm left _ (by omega))
theorem rk_by : ∀ (m : Nat) (left : List Int) (k : Int), m ≤ 7 → left.length = m → left.Pairwise (· < ·) → 0 ≤ k → k < facN m → rk (takeBy m left k) = k
  | 0, left, k, _, _, _, h0, hk => by simp [facN] at hk; simp [takeBy, rk]; omega
  | m + 1, left, k, hm, hl, hs, h0, hk => by
    obtain ⟨h1, h2, h3, h4⟩ := place_bd m k (by omega) h0 hk
    have hp : (k / facN m).toNat < left.length := by omega
    have hlen := erase_len left (k / facN m).toNat m hl (by omega)
    have ih := rk_by m (left.eraseIdx (k / facN m).toNat) (k % facN m) (by omega) hlen (erase_sorted hs) h3 h4
    have hpm := takeBy_perm m (left.eraseIdx (k / facN m).toNat) (k % facN m) (by omega) hlen h3 h4
    have e1 := lessN_perm hpm (left.getD (k / facN m).toNat 0)
    have e2 := lessN_perm (erase_perm left (k / facN m).toNat hp) (left.getD (k / facN m).toNat 0)
    have e3 := lessN_place left (k / facN m).toNat hs hp
    have e4 : lessN (left.getD (k / facN m).toNat 0 :: left.eraseIdx (k / facN m).toNat) (left.getD (k / facN m).toNat 0) = lessN (left.eraseIdx (k / facN m).toNat) (left.getD (k / facN m).toNat 0) := by
      simp [lessN]
    rw [takeBy, rk, ih, takeBy_length, e1, ← e4, e2, e3, Int.toNat_of_nonneg h1]
    have := Int.mul_ediv_add_emod k (facN m)
    rw [Int.mul_comm] at this
    exact this
theorem lessN_le (t : List Int) (x : Int) : lessN t x ≤ t.length := List.countP_le_length
theorem rk_bd : ∀ t : List Int, t.length ≤ 7 → 0 ≤ rk t ∧ rk t < facN t.length
  | [], _ => by simp [rk, facN]
  | x :: t, h => by
    have h' : t.length ≤ 6 := by simp at h; omega
    have ih := rk_bd t (by omega)
    have hf := facN_bd t.length
    have hl := lessN_le t x
    rw [rk, List.length_cons, facN_succ _ h']
    have h1 : 0 ≤ (lessN t x : Int) * facN t.length := Int.mul_nonneg (by omega) (by omega)
    have h2 : (lessN t x : Int) * facN t.length ≤ (t.length : Int) * facN t.length := Int.mul_le_mul_of_nonneg_right (by omega) (by omega)
    have h3 : ((t.length + 1 : Nat) : Int) * facN t.length = (t.length : Int) * facN t.length + facN t.length := by push_cast; rw [Int.add_mul]; omega
    omega
theorem place_at : ∀ (l : List Int) (x : Int), l.Pairwise (· < ·) → x ∈ l → lessN l x < l.length ∧ l.getD (lessN l x) 0 = x := fun l x hs hx => by
  have hi := List.idxOf_lt_length_of_mem hx
  have e := at_idx l x hx
  have h := lessN_place l _ hs hi
  rw [e] at h
  rw [h]
  exact ⟨hi, e⟩
theorem by_rk : ∀ (m : Nat) (left t : List Int), m ≤ 7 → left.length = m → left.Pairwise (· < ·) → List.Perm t left → takeBy m left (rk t) = t
  | 0, left, t, _, hl, _, hp => by
    have : t.length = 0 := by rw [hp.length_eq, hl]
    rw [List.length_eq_zero_iff.1 this]
    rfl
  | m + 1, left, [], _, hl, _, hp => by have := hp.length_eq; simp [hl] at this
  | m + 1, left, x :: t, hm, hl, hs, hp => by
    have htl : t.length = m := by have := hp.length_eq; simp [hl] at this; omega
    have hb := rk_bd t (by omega)
    rw [htl] at hb
    have hx : x ∈ left := hp.mem_iff.1 (List.mem_cons_self ..)
    have e1 : lessN left x = lessN t x := by rw [← lessN_perm hp x]; simp [lessN]
    have hpl := place_at left x hs hx
    rw [e1] at hpl
    have hq : rk (x :: t) / facN m = (lessN t x : Int) := by
      rw [rk, htl, Int.add_comm, Int.add_mul_ediv_right _ _ (by have := (facN_bd m).1; omega), Int.ediv_eq_zero_of_lt hb.1 hb.2, Int.zero_add]
    have hr : rk (x :: t) % facN m = rk t := by
      rw [rk, htl, Int.add_comm, Int.add_mul_emod_self_right, Int.emod_eq_of_lt hb.1 hb.2]
    have hpm : List.Perm t (left.eraseIdx (lessN t x)) := by
      have := (hp.trans (erase_perm left (lessN t x) hpl.1).symm)
      rw [hpl.2] at this
      exact List.Perm.cons_inv this
    rw [takeBy, hq, hr, Int.toNat_natCast, hpl.2, by_rk m _ t (by omega) (erase_len left _ m hl (by omega)) (erase_sorted hs) hpm]
theorem upFrom_sorted (a : Int) (n : Nat) : (upFrom a n).Pairwise (· < ·) := by
  unfold upFrom
  rw [List.pairwise_map]
  exact List.Pairwise.imp (fun h => by omega) List.pairwise_lt_range

/-- The same number by counting place by place. -/
theorem cnt_drop (l : List Int) (i : Nat) : ∀ k, i + 1 ≤ k → k ≤ l.length → cnt l i k = lessN ((l.take k).drop (i + 1)) (l.getD i 0)
  | 0, h, _ => absurd h (by omega)
  | k + 1, h, hk => by
    by_cases e : i = k
    · subst e
      rw [cnt_start l i (i + 1) (Nat.le_refl _), List.drop_of_length_le (by rw [List.length_take]; omega)]
      rfl
    · rw [cnt, cnt_drop l i k (by omega) (by omega)]
      have e1 : l.take (k + 1) = l.take k ++ [l.getD k 0] := by
        rw [List.take_add_one]
        congr 1
        simp [List.getD, show k < l.length by omega]
      rw [e1, List.drop_append_of_le_length (by rw [List.length_take]; omega)]
      unfold lessN
      rw [List.countP_append]
      congr 1
      by_cases hlt : l.getD k 0 < l.getD i 0
      · rw [if_pos ⟨by omega, hlt⟩, List.countP_cons_of_pos (by simpa using hlt)]; rfl
      · rw [if_neg (fun h => hlt h.2), List.countP_cons_of_neg (by simpa using hlt)]; rfl
theorem numP_rk (l : List Int) : ∀ m, m ≤ l.length → numP l m + rk (l.drop m) = rk l
  | 0, _ => by simp [numP]
  | m + 1, h => by
    have ih := numP_rk l m (by omega)
    have e : l.drop m = l.getD m 0 :: l.drop (m + 1) := by
      rw [List.drop_eq_getElem_cons (by omega)]
      simp [List.getD, show m < l.length by omega]
    rw [e, rk, List.length_drop] at ih
    rw [numP, cnt_drop l m l.length (by omega) (Nat.le_refl _), List.take_length, show l.length - 1 - m = l.length - (m + 1) by omega]
    omega
theorem numP_full (l : List Int) : numP l l.length = rk l := by
  have := numP_rk l l.length (Nat.le_refl _)
  rw [List.drop_length] at this
  simpa [rk] using this
theorem tell_perm {l : List Int} (h : Tell l) : List.Perm l (upFrom 0 l.length) := by
  have hu : (upFrom 0 l.length).Nodup := (upFrom_sorted 0 l.length).imp (fun h e => by omega)
  refine (List.perm_ext_iff_of_nodup h.2.2.2 hu).2 fun x => ⟨fun hx => ?_, fun hx => ?_⟩
  · have := h.2.2.1 x hx
    exact List.mem_map.2 ⟨x.toNat, List.mem_range.2 (by omega), by omega⟩
  · obtain ⟨i, hi, rfl⟩ := List.mem_map.1 hx
    have := List.mem_range.1 hi
    exact h.has (by omega) (by omega)
theorem ring_num {l : List Int} (h : Ring l) : 0 ≤ numP l l.length ∧ numP l l.length < facN (l.length - 1) ∧ byL l.length (numP l l.length) = l := by
  obtain ⟨x, t, e⟩ : ∃ x t, l = x :: t := by
    cases l with
    | nil => exact absurd h.1.1 (by simp)
    | cons x t => exact ⟨x, t, rfl⟩
  have h7 := h.1.2.1
  have hx : x = 0 := by have := h.2; rw [e] at this; simpa using this
  have hz : lessN t x = 0 := by
    unfold lessN
    rw [List.countP_eq_zero]
    intro y hy
    have := h.1.2.2.1 y (by rw [e]; exact List.mem_cons_of_mem _ hy)
    simp; omega
  have hb := rk_bd t (by rw [e] at h7; simp at h7; omega)
  rw [numP_full]
  refine ⟨?_, ?_, by_rk _ _ l h7 (by simp) (upFrom_sorted 0 _) (tell_perm h.1)⟩
  · rw [e, rk, hz]; omega
  · rw [e, rk, hz, List.length_cons, Nat.add_sub_cancel]; omega
theorem by_tell (n : Nat) (k : Int) (h3 : 3 ≤ n) (h7 : n ≤ 7) (h0 : 0 ≤ k) (hk : k < facN (n - 1)) : Ring (byL n k) ∧ numP (byL n k) n = k := by
  have hf : k < facN n := by
    obtain ⟨m, rfl⟩ : ∃ m, n = m + 1 := ⟨n - 1, by omega⟩
    rw [facN_succ m (by omega)]
    rw [Nat.add_sub_cancel] at hk
    have := facN_bd m
    have : 1 * facN m ≤ ((m + 1 : Nat) : Int) * facN m := Int.mul_le_mul_of_nonneg_right (by omega) (by omega)
    omega
  have hp := takeBy_perm n (upFrom 0 n) k h7 (by simp) h0 hf
  have hl := byL_length n k
  have hn := numP_full (byL n k)
  rw [hl] at hn
  refine ⟨⟨⟨by omega, by omega, fun x hx => ?_, ?_⟩, ?_⟩, by rw [hn]; exact rk_by n _ k h7 (by simp) (upFrom_sorted 0 n) h0 hf⟩
  · obtain ⟨i, hi, rfl⟩ := List.mem_map.1 (hp.mem_iff.1 hx)
    have := List.mem_range.1 hi
    rw [hl]
    omega
  · exact hp.nodup_iff.2 ((upFrom_sorted 0 n).imp (fun h e => by omega))
  · rw [byL_eq n k (by omega) h7 h0 hk]; rfl

/-- Greater numbers tell lists that come later. -/
theorem takeBy_later : ∀ (m : Nat) (left : List Int) (k k' : Int), m ≤ 7 → left.length = m → left.Pairwise (· < ·) → 0 ≤ k → k < k' → k' < facN m →
    ∃ i, i < m ∧ (∀ j, j < i → (takeBy m left k').getD j 0 = (takeBy m left k).getD j 0) ∧ (takeBy m left k).getD i 0 < (takeBy m left k').getD i 0
  | 0, _, k, k', _, _, _, h0, hk, h1 => by simp [facN] at h1; omega
  | m + 1, left, k, k', hm, hl, hs, h0, hkk, hk' => by
    obtain ⟨a1, a2, a3, a4⟩ := place_bd m k (by omega) h0 (by omega)
    obtain ⟨b1, b2, b3, b4⟩ := place_bd m k' (by omega) (by omega) hk'
    have hf := (facN_bd m).1
    have hle : k / facN m ≤ k' / facN m := Int.ediv_le_ediv (by omega) (by omega)
    have e1 := Int.mul_ediv_add_emod k (facN m)
    have e2 := Int.mul_ediv_add_emod k' (facN m)
    by_cases hq : k / facN m = k' / facN m
    · rw [hq] at e1
      obtain ⟨i, hi, h1, h2⟩ := takeBy_later m (left.eraseIdx (k' / facN m).toNat) (k % facN m) (k' % facN m) (by omega) (erase_len left _ m hl (by omega)) (erase_sorted hs) a3 (by omega) b4
      refine ⟨i + 1, by omega, fun j hj => ?_, ?_⟩
      · rw [takeBy, takeBy, hq]
        cases j with
        | zero => rfl
        | succ j => simpa using h1 j (by omega)
      · rw [takeBy, takeBy, hq]
        simpa using h2
    · refine ⟨0, by omega, fun j hj => absurd hj (by omega), ?_⟩
      rw [takeBy, takeBy]
      simp only [List.getD_cons_zero]
      have ha : (k / facN m).toNat < left.length := by omega
      have hb : (k' / facN m).toNat < left.length := by omega
      have := (List.pairwise_iff_getElem.1 hs) (k / facN m).toNat (k' / facN m).toNat ha hb (by omega)
      simpa [List.getD, ha, hb] using this
theorem by_later (n : Nat) (k k' : Int) (h3 : 3 ≤ n) (h7 : n ≤ 7) (h0 : 0 ≤ k) (hk : k < k') (hk' : k' < facN (n - 1)) :
    ∃ i, i < n ∧ (∀ j, j < i → (byL n k').getD j 0 = (byL n k).getD j 0) ∧ (byL n k).getD i 0 < (byL n k').getD i 0 := by
  have hf : k' < facN n := by
    obtain ⟨m, rfl⟩ : ∃ m, n = m + 1 := ⟨n - 1, by omega⟩
    rw [facN_succ m (by omega)]
    rw [Nat.add_sub_cancel] at hk'
    have := facN_bd m
    have : 1 * facN m ≤ ((m + 1 : Nat) : Int) * facN m := Int.mul_le_mul_of_nonneg_right (by omega) (by omega)
    omega
  exact takeBy_later n (upFrom 0 n) k k' h7 (by simp) (upFrom_sorted 0 n) h0 hk hf
theorem byB_no {n k : Int} (h : ¬ byB n k = true) : byB n k = false := by simpa using h
end Go.Proofs.YtmfilnpbkonfaabDoor
