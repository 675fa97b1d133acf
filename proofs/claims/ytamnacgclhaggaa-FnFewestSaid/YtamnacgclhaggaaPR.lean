/- Several texts as one: Has CutT Next NextT StepsT SwM Of From Back BackT RingM Num Count ByM ByS ByI AllR. -/
import Derived.Test.YtamnacgclhaggaaMA
import Derived.IntWalk
import Derived.Deep.RegionLaw
import Derived.Maps.AppendAt
import Derived.Test.YtamnacgclhaggaaDel
import Derived.Laws.IdiomCopy
import Derived.Test.YtamnacgclhaggaaPE
import Derived.Deep.RegionHeld3
namespace Go.Proofs.Ytamnacgclhaggaa
open Go.ChangeShapes Go.WideShapes Go.ChangeAt Go.RowKit

/-- A ring and a point of it. -/
def hasB (l : List Int) (x : Int) : Bool := ringB l && decide (0 ≤ x ∧ x < l.length)

theorem hasS_any (A : Option Addr) (n c H : Nat) (l : List Int) (x : Int) (w : World) (h : Rd w H A n l) (hn : n ≤ 1048576) :
    Calls Try.prog 71 #[.slice A n c, .int .i64 x] w fun e w' => e = .returned (.bool (hasB l x)) ∧ w = w' := by
  have he := fun W hW => Lib.hid (ringS_any A n c H l W hW hn)
  have HE := Lib.hid he
  have HL := Lib.hid h.len
  clear he
  unfold hasB
  rw [HL.out]
  by_cases ht : Ring l
  · have h3 := ht.1.1
    rw [HL.out] at h3
    have e : decide (0 ≤ x ∧ x < (n : Int)) = (decide (0 ≤ x) && decide (x ≤ (n : Int) - 1)) := by
      rw [Bool.eq_iff_iff]; simp; omega
    rw [ring_yes ht] at HE ⊢
    rw [e]
    clear e ht
    go_enter Try.func71, Try.ntmps71
    go_wp2_with (first
      | (go_at_call 45; refine ((HE.out _ h).out).mono ?_; rintro e w' ⟨rfl, rfl⟩)
      | (go_at_call 67; refine (in_any _ _ _ _).mono ?_; rintro e w' ⟨rfl, rfl⟩))
    go_ret
    exact ⟨rfl, rfl⟩
  · rw [ring_no ht] at HE ⊢
    clear ht
    go_enter Try.func71, Try.ntmps71
    go_wp2_with (go_at_call 45; refine ((HE.out _ h).out).mono ?_; rintro e w' ⟨rfl, rfl⟩)
    go_ret
    exact ⟨rfl, rfl⟩

theorem hasB_yes {l : List Int} {x : Int} (h : hasB l x = true) : Ring l ∧ 0 ≤ x ∧ x < l.length ∧ x ∈ l := by
  simp only [hasB, ringB, Bool.and_eq_true, decide_eq_true_eq] at h
  exact ⟨h.1, h.2.1, h.2.2, h.1.1.has h.2.1 h.2.2⟩
end Go.Proofs.Ytamnacgclhaggaa

namespace Go.Proofs.Ytamnacgclhaggaa
open Go.ChangeShapes Go.WideShapes Go.ChangeAt Go.RowKit

def cutR (l : List Int) (x : Int) : List Int := if hasB l x then cutL l x else []
theorem cutR_length (l : List Int) (x : Int) : (cutR l x).length ≤ 7 := by
  unfold cutR
  split
  · rename_i h; rw [cutL_length]; exact (hasB_yes h).1.1.2.1
  · simp
theorem cutL_pos (l : List Int) (x : Int) (h : Tell l) : ∀ y ∈ cutL l x, 0 ≤ y := fun y hy => by
  obtain ⟨i, _, rfl⟩ := List.mem_map.1 hy
  exact h.pos _ (getD_mem l _ (Nat.mod_lt _ (by have := h.1; omega)))

end Go.Proofs.Ytamnacgclhaggaa

namespace Go.Proofs.Ytamnacgclhaggaa
open Go.ChangeShapes Go.WideShapes Go.ChangeAt Go.RowKit

theorem box_world (w : World) (c : Array Value) (P : List Int) (hc : c = (ints P).toArray) (W : World) (hW : W = w.alloc (.cells c 53)) :
    Arr W w.heap.size P ∧ Below w.heap.size w W ∧ W.heap.size = w.heap.size + 1 := by
  subst hc; subst hW
  exact ⟨heap_alloc_new w _, (Below.refl _ _).alloc (Nat.le_refl _) _, by simp⟩

set_option maxHeartbeats 1000000 in
theorem next_any (l : List Int) (x : Int) (w : World) (h1 : 1 ≤ l.length) (hl : l.length ≤ 7) (hp : ∀ x ∈ l, 0 ≤ x) (hm : x ∈ l) :
    Calls Try.prog 116 #[agp l, .int .i64 x] w fun e w' => e = .returned (.int .i64 (l.getD ((l.idxOf x + 1) % l.length) 0)) ∧ Below w.heap.size w w' := by
  obtain ⟨a0, a1, a2, a3, a4, a5, a6, hP⟩ := seven (padR_length l hl)
  have HS := fun W => Lib.hid (size_any l W hl hp)
  have HPL := fun W => Lib.hid (place_any l x W hl hm)
  have hidx : l.idxOf x < l.length := List.idxOf_lt_length_of_mem hm
  have hmod : (l.idxOf x + 1) % l.length < l.length := Nat.mod_lt _ h1
  have hga : ([a0, a1, a2, a3, a4, a5, a6] : List Int).getD ((l.idxOf x + 1) % l.length) 0 = l.getD ((l.idxOf x + 1) % l.length) 0 := by rw [← hP]; exact padR_get l _ hmod
  unfold agp at HS HPL ⊢
  rw [hP] at HS HPL ⊢
  simp only [ints, List.map_cons, List.map_nil] at HS HPL ⊢
  have HSS := Lib.hid HS
  have HPP := Lib.hid HPL
  rw [← hga]
  clear hP hp HS HPL hm hga
  generalize l.length = n at *
  generalize l.idxOf x = s at *
  go_enter Try.func116, Try.ntmps116
  go_wp2_with fail
  obtain ⟨W, hW⟩ : ∃ W, W = w.alloc (.cells #[.int .i64 a0, .int .i64 a1, .int .i64 a2, .int .i64 a3, .int .i64 a4, .int .i64 a5, .int .i64 a6] 53) := ⟨_, rfl⟩
  rw [← hW]
  obtain ⟨k1, k2, k3⟩ := box_world w _ [a0, a1, a2, a3, a4, a5, a6] rfl W hW
  have hcell := k1.cell (i := (s + 1) % n) (by simp; omega)
  obtain ⟨c0, c1, c2, c3, c4, c5, c6⟩ := cells7 k1
  have HB := Lib.hid k2
  clear k1 k2 hW
  generalize hy : ([a0, a1, a2, a3, a4, a5, a6] : List Int).getD ((s + 1) % n) 0 = y at *
  have HY := Lib.hid hy
  clear hy
  have hBW : w.heap.size < W.heap.size := by omega
  generalize hB : w.heap.size = B at *
  have HBB := Lib.hid hB
  have HK3 := Lib.hid k3
  clear k3 hB
  have hmi : ((s : Int) + 1) % (n : Int) < 7 := by
    have e : ((s : Int) + 1) % (n : Int) = (((s + 1) % n : Nat) : Int) := by simp
    rw [e]; omega
  have hmo : 0 ≤ ((s : Int) + 1) % (n : Int) := Int.emod_nonneg _ (by omega)
  have hw1 : IntKind.i64.wrap ((s : Int) + 1) = (s : Int) + 1 := IntWalk.i64_in _ (by omega)
  have htm : Int.tmod ((s : Int) + 1) (n : Int) = ((s : Int) + 1) % (n : Int) := Int.tmod_eq_emod_of_nonneg (by omega)
  have htn : (((s : Int) + 1) % (n : Int)).toNat = (s + 1) % n := by
    have e : ((s : Int) + 1) % (n : Int) = (((s + 1) % n : Nat) : Int) := by simp
    rw [e, Int.toNat_natCast]
  go_region_with (first
    | (go_at_call 107; refine ((HSS.out _).out).mono ?_; rintro e w' ⟨rfl, rfl⟩)
    | (go_at_call 121; refine ((HPP.out _).out).mono ?_; rintro e w' ⟨rfl, rfl⟩))
  all_goals
    clear hw1 htm htn hmi hmo hcell c0 c1 c2 c3 c4 c5 c6
    go_wp2
    go_ret
    exact ⟨by rw [HY.out]; rfl, by rw [HBB.out]; exact ((HB.out.alloc (by omega) _).alloc (by simp; omega) _).drew⟩

/-- The steps from x to y. -/
def stepsI (l : List Int) (x y : Int) : Int := ((l.idxOf y : Int) - (l.idxOf x : Int)) % (l.length : Int)

set_option maxHeartbeats 1000000 in
theorem steps_any (l : List Int) (x y : Int) (w : World) (h1 : 1 ≤ l.length) (hl : l.length ≤ 7) (hp : ∀ x ∈ l, 0 ≤ x) (hm : x ∈ l) (hm' : y ∈ l) :
    Calls Try.prog 99 #[agp l, .int .i64 x, .int .i64 y] w fun e w' => e = .returned (.int .i64 (stepsI l x y)) ∧ Below w.heap.size w w' := by
  obtain ⟨a0, a1, a2, a3, a4, a5, a6, hP⟩ := seven (padR_length l hl)
  have HS := fun W => Lib.hid (size_any l W hl hp)
  have HPX := fun W => Lib.hid (place_any l x W hl hm)
  have HPY := fun W => Lib.hid (place_any l y W hl hm')
  have hidx : l.idxOf x < l.length := List.idxOf_lt_length_of_mem hm
  have hidy : l.idxOf y < l.length := List.idxOf_lt_length_of_mem hm'
  unfold agp at HS HPX HPY ⊢
  unfold stepsI
  rw [hP] at HS HPX HPY ⊢
  simp only [ints, List.map_cons, List.map_nil] at HS HPX HPY ⊢
  have HSS := Lib.hid HS
  have HXX := Lib.hid HPX
  have HYY := Lib.hid HPY
  clear hP hp HS HPX HPY hm hm'
  generalize l.length = n at *
  generalize l.idxOf x = s at *
  generalize l.idxOf y = t at *
  go_enter Try.func99, Try.ntmps99
  go_wp2_with (go_at_call 107; refine ((HSS.out _).out).mono ?_; rintro e w' ⟨rfl, rfl⟩)
  obtain ⟨W0, hW0⟩ : ∃ W, W = w.alloc (.cells #[.int .i64 a0, .int .i64 a1, .int .i64 a2, .int .i64 a3, .int .i64 a4, .int .i64 a5, .int .i64 a6] 53) := ⟨_, rfl⟩
  obtain ⟨W, hW⟩ : ∃ W, W = W0.alloc (.cells #[.int .i64 a0, .int .i64 a1, .int .i64 a2, .int .i64 a3, .int .i64 a4, .int .i64 a5, .int .i64 a6] 53) := ⟨_, rfl⟩
  rw [← hW0, ← hW]
  obtain ⟨k1, k2, k3⟩ := box_world w _ [a0, a1, a2, a3, a4, a5, a6] rfl W0 hW0
  have k4 : Arr W w.heap.size [a0, a1, a2, a3, a4, a5, a6] := by rw [hW]; exact k1.alloc _
  have k5 : W.heap.size = w.heap.size + 2 := by rw [hW]; simp [k3]
  obtain ⟨c0, c1, c2, c3, c4, c5, c6⟩ := cells7 k4
  have HB := Lib.hid (show Below w.heap.size w W by rw [hW]; exact k2.alloc (by omega) _)
  clear k1 k2 k3 k4 hW hW0
  have hBW : w.heap.size < W.heap.size := by omega
  generalize hB : w.heap.size = B at *
  have HBB := Lib.hid hB
  have HK5 := Lib.hid k5
  clear k5 hB
  have hw1 : IntKind.i64.wrap ((t : Int) - (s : Int)) = (t : Int) - (s : Int) := IntWalk.i64_in _ (by omega)
  have hw2 : IntKind.i64.wrap ((t : Int) - (s : Int) + (n : Int)) = (t : Int) - (s : Int) + (n : Int) := IntWalk.i64_in _ (by omega)
  have htm : Int.tmod ((t : Int) - (s : Int) + (n : Int)) (n : Int) = ((t : Int) - (s : Int) + (n : Int)) % (n : Int) := Int.tmod_eq_emod_of_nonneg (by omega)
  go_region_with (first
    | (go_at_call_of 121 (Value.int IntKind.i64 y); refine ((HYY.out _).out).mono ?_; rintro e w' ⟨rfl, rfl⟩)
    | (go_at_call_of 121 (Value.int IntKind.i64 x); refine ((HXX.out _).out).mono ?_; rintro e w' ⟨rfl, rfl⟩))
  all_goals
    clear hw1 hw2 htm c0 c1 c2 c3 c4 c5 c6
    go_wp2
    go_ret
    exact ⟨rfl, by rw [HBB.out]; exact ((HB.out.alloc (by omega) _).alloc (by simp; omega) _).drew⟩
end Go.Proofs.Ytamnacgclhaggaa

namespace Go.Proofs.Ytamnacgclhaggaa
open Go.ChangeShapes Go.WideShapes Go.ChangeAt Go.RowKit

def nextR (l : List Int) (x : Int) : Int := if hasB l x then l.getD ((l.idxOf x + 1) % l.length) 0 else 0

end Go.Proofs.Ytamnacgclhaggaa

namespace Go.Proofs.Ytamnacgclhaggaa
open Go.ChangeShapes Go.WideShapes Go.ChangeAt Go.RowKit

/-- Two points of a ring. -/
def hasB2 (l : List Int) (x y : Int) : Bool := hasB l x && hasB l y
def stepsR (l : List Int) (x y : Int) : Int := if hasB2 l x y then stepsI l x y else 0

theorem st_any (A : Option Addr) (n c H : Nat) (l : List Int) (x y : Int) (w : World) (h : Rd w H A n l) (h1 : 1 ≤ n) (hn : n ≤ 7) (hx : x ∈ l) (hy : y ∈ l) :
    Calls Try.prog 75 #[.slice A n c, .int .i64 x, .int .i64 y] w fun e w' => e = .returned (.int .i64 (stepsI l x y)) ∧ w = w' := by
  have hX := fun W hW => Lib.hid (at_any A n c H l x W hW (by omega) hx)
  have hY := fun W hW => Lib.hid (at_any A n c H l y W hW (by omega) hy)
  have HX := Lib.hid hX
  have HY := Lib.hid hY
  have hidx : l.idxOf x < n := by rw [← h.len]; exact List.idxOf_lt_length_of_mem hx
  have hidy : l.idxOf y < n := by rw [← h.len]; exact List.idxOf_lt_length_of_mem hy
  have HL := Lib.hid h.len
  unfold stepsI
  rw [HL.out]
  clear hX hY hx hy
  generalize l.idxOf x = s at *
  generalize l.idxOf y = t at *
  go_enter Try.func75, Try.ntmps75
  go_wp2_with fail
  refine ((HY.out _ h).out).mono ?_
  rintro e w' ⟨rfl, rfl⟩
  go_wp2_with fail
  refine ((HX.out _ h).out).mono ?_
  rintro e w' ⟨rfl, rfl⟩
  go_wp2
  go_ret
  have e : ((t : Int) - (s : Int) + (n : Int)) % (n : Int) = ((t : Int) - (s : Int)) % (n : Int) := Int.add_emod_right ..
  exact ⟨by rw [← e]; rfl, rfl⟩

end Go.Proofs.Ytamnacgclhaggaa

namespace Go.Proofs.Ytamnacgclhaggaa

/-- Two places exchanged. -/
def swp (m : List Int) (i j : Nat) : List Int := (m.set i (m.getD j 0)).set j (m.getD i 0)
@[simp] theorem swp_length (m : List Int) (i j : Nat) : (swp m i j).length = m.length := by simp [swp]
theorem swp_get (m : List Int) (i j k : Nat) (hi : i < m.length) (hj : j < m.length) (_ : k < m.length) : (swp m i j).getD k 0 = if k = j then m.getD i 0 else if k = i then m.getD j 0 else m.getD k 0 := by
  unfold swp
  simp only [List.getD]
  rw [List.getElem?_set, List.getElem?_set]
  by_cases h : k = j
  · subst h; simp [hj]
  · rw [if_neg (by omega), if_neg h]
    by_cases h' : k = i
    · subst h'; simp [hi]
    · rw [if_neg (by omega), if_neg h']
theorem swp_mem (m : List Int) (i j : Nat) (hi : i < m.length) (hj : j < m.length) (x : Int) : x ∈ swp m i j ↔ x ∈ m := by
  constructor
  · intro h
    obtain ⟨k, hk, e⟩ := List.getElem_of_mem h
    have hk' : k < m.length := by simpa using hk
    have e2 : (swp m i j).getD k 0 = x := by simp [List.getD, hk', e]
    rw [swp_get m i j k hi hj hk'] at e2
    rw [← e2]
    split
    · exact getD_mem m i hi
    · split
      · exact getD_mem m j hj
      · exact getD_mem m k hk'
  · intro h
    obtain ⟨k, hk, e⟩ := List.getElem_of_mem h
    have e0 : m.getD k 0 = x := by simp [List.getD, hk, e]
    have hin : ∀ q, q < m.length → (swp m i j).getD q 0 ∈ swp m i j := fun q hq => getD_mem _ q (by simpa using hq)
    by_cases h1 : k = i
    · have h2 := hin j hj
      rw [swp_get m i j j hi hj hj, if_pos rfl] at h2
      rw [← h1, e0] at h2
      subst h1
      exact h2
    · by_cases h2 : k = j
      · have h3 := hin i hi
        rw [swp_get m i j i hi hj hi] at h3
        by_cases h4 : i = j
        · omega
        · rw [if_neg h4, if_pos rfl] at h3
          rw [← h2, e0] at h3
          subst h2
          exact h3
      · have h3 := hin k hk
        rw [swp_get m i j k hi hj hk, if_neg h2, if_neg h1, e0] at h3
        exact h3

theorem nodup_of_mem (a b : List Int) (hl : a.length = b.length) (hb : Tell b) (h : ∀ x, x ∈ b → x ∈ a) : Tell a := by
  have hall : ∀ j : Nat, j < a.length → (j : Int) ∈ a := fun j hj => h _ (hb.has (by omega) (by omega))
  obtain ⟨h1, h2⟩ := nodup_of_all a.length a rfl hall
  exact ⟨by rw [hl]; exact hb.1, by rw [hl]; exact hb.2.1, h2, h1⟩
theorem swp_tell {l : List Int} (h : Tell l) {i j : Nat} (hi : i < l.length) (hj : j < l.length) : Tell (swp l i j) :=
  nodup_of_mem _ l (by simp) h fun x hx => (swp_mem l i j hi hj x).2 hx
theorem cutL_mem (l : List Int) (x y : Int) (hx : x ∈ l) : y ∈ cutL l x ↔ y ∈ l := by
  have hi := List.idxOf_lt_length_of_mem hx
  constructor
  · intro h
    obtain ⟨k, hk, e⟩ := List.getElem_of_mem h
    have hk' : k < l.length := by simpa using hk
    have e2 : (cutL l x).getD k 0 = y := by simp [List.getD, hk', e]
    rw [cutL_get l x k hk'] at e2
    rw [← e2]
    exact getD_mem l _ (Nat.mod_lt _ (by omega))
  · intro h
    obtain ⟨k, hk, e⟩ := List.getElem_of_mem h
    have e0 : l.getD k 0 = y := by simp [List.getD, hk, e]
    have hq : (k + (l.length - l.idxOf x)) % l.length < l.length := Nat.mod_lt _ (by omega)
    have h2 := getD_mem (cutL l x) _ (by simpa using hq)
    rw [cutL_get l x _ hq] at h2
    have e3 : (l.idxOf x + (k + (l.length - l.idxOf x)) % l.length) % l.length = k := by
      rw [Nat.add_mod_mod, show l.idxOf x + (k + (l.length - l.idxOf x)) = k + l.length by omega, Nat.add_mod_right, Nat.mod_eq_of_lt hk]
    rw [e3, e0] at h2
    exact h2
theorem cutL_tell {l : List Int} {x : Int} (h : Tell l) (hx : x ∈ l) : Tell (cutL l x) :=
  nodup_of_mem _ l (by simp) h fun y hy => (cutL_mem l x y hx).2 hy
theorem cutL_ring {l : List Int} (h : Tell l) : Ring (cutL l 0) := by
  refine ⟨cutL_tell h h.zero, ?_⟩
  have h3 := h.1
  rw [cutL_get l 0 0 (by omega)]
  have hi := List.idxOf_lt_length_of_mem h.zero
  rw [show l.idxOf 0 + 0 = l.idxOf 0 by omega, Nat.mod_eq_of_lt hi]
  exact at_idx l 0 h.zero

/-- The ring in which x and the one behind it are exchanged. -/
def swapL (l : List Int) (x : Int) : List Int := cutL (swp l (l.idxOf x) ((l.idxOf x + 1) % l.length)) 0
@[simp] theorem swapL_length (l : List Int) (x : Int) : (swapL l x).length = l.length := by simp [swapL]
theorem swapL_ring {l : List Int} (h : Tell l) {x : Int} (hx : x ∈ l) : Ring (swapL l x) := by
  have hi := List.idxOf_lt_length_of_mem hx
  exact cutL_ring (swp_tell h hi (Nat.mod_lt _ (by omega)))

theorem cut_turned (m m' : List Int) (p : Nat) (hl : m'.length = m.length) (hd : m.Nodup) (h0 : (0 : Int) ∈ m) (h0' : (0 : Int) ∈ m')
    (h : ∀ k, k < m.length → m'.getD k 0 = m.getD ((k + p) % m.length) 0) : cutL m' 0 = cutL m 0 := by
  have hi := List.idxOf_lt_length_of_mem h0
  have hi' := List.idxOf_lt_length_of_mem h0'
  have hq : (m'.idxOf 0 + p) % m.length = m.idxOf 0 := by
    have e := h (m'.idxOf 0) (by omega)
    rw [at_idx m' 0 h0'] at e
    have hlt : (m'.idxOf 0 + p) % m.length < m.length := Nat.mod_lt _ (by omega)
    have e2 : m[(m'.idxOf 0 + p) % m.length] = 0 := by simpa [List.getD, hlt] using e.symm
    have := hd.idxOf_getElem _ hlt
    rw [e2] at this
    exact this.symm
  refine ext_getD _ _ (by simp [hl]) fun k hk => ?_
  have hk' : k < m.length := by simpa [hl] using hk
  rw [cutL_get m' 0 k (by omega), cutL_get m 0 k hk', hl, h _ (Nat.mod_lt _ (by omega))]
  congr 1
  rw [Nat.mod_add_mod, ← hq, Nat.mod_add_mod]
  congr 1
  omega

theorem swap_spec {l : List Int} (h : Tell l) {x : Int} (hx : x ∈ l) : cutL (swp (cutL l x) 0 1) 0 = swapL l x := by
  have hi := List.idxOf_lt_length_of_mem hx
  have h3 := h.1
  have hc := cutL_tell h hx
  have hj : (l.idxOf x + 1) % l.length < l.length := Nat.mod_lt _ (by omega)
  have t1 := swp_tell hc (i := 0) (j := 1) (by simp; omega) (by simp; omega)
  have t2 := swp_tell h hi hj
  refine cut_turned _ _ (l.idxOf x) (by simp) t2.2.2.2 t2.zero t1.zero fun k hk => ?_
  have hk' : k < l.length := by simpa using hk
  simp only [swp_length]
  rw [swp_get _ 0 1 k (by simp; omega) (by simp; omega) (by simpa using hk'), cutL_get l x 0 (by omega), cutL_get l x 1 (by omega), cutL_get l x k hk']
  rw [swp_get l _ _ _ hi hj (Nat.mod_lt _ (by omega))]
  rw [show l.idxOf x + 0 = l.idxOf x by omega, Nat.mod_eq_of_lt hi]
  have key : ∀ a b : Nat, a < l.length → b < l.length → (l.idxOf x + a) % l.length = (l.idxOf x + b) % l.length → a = b := by
    intro a b ha hb e
    have e2 : ∀ q, q < l.length → (l.idxOf x + q) % l.length = if l.idxOf x + q < l.length then l.idxOf x + q else l.idxOf x + q - l.length := by
      intro q hq
      split
      · exact Nat.mod_eq_of_lt (by assumption)
      · rw [Nat.mod_eq_sub_mod (by omega), Nat.mod_eq_of_lt (by omega)]
    rw [e2 a ha, e2 b hb] at e
    split at e <;> split at e <;> omega
  have e1 : (k + l.idxOf x) % l.length = (l.idxOf x + 1) % l.length ↔ k = 1 :=
    ⟨fun e => key k 1 hk' (by omega) (by rw [← e, Nat.add_comm]), fun e => by rw [e, Nat.add_comm]⟩
  have e0 : (k + l.idxOf x) % l.length = l.idxOf x ↔ k = 0 :=
    ⟨fun e => key k 0 hk' (by omega) (by rw [show l.idxOf x + 0 = l.idxOf x by omega, Nat.mod_eq_of_lt hi, Nat.add_comm]; exact e), fun e => by rw [e, Nat.zero_add, Nat.mod_eq_of_lt hi]⟩
  simp only [e1, e0]
  rw [Nat.add_comm k]
end Go.Proofs.Ytamnacgclhaggaa

namespace Go.Proofs.Ytamnacgclhaggaa
open Go.ChangeShapes Go.WideShapes Go.ChangeAt Go.RowKit

def ofR (l : List Int) : List Int := if Tell l then cutL l 0 else []
theorem ofR_length (l : List Int) : (ofR l).length ≤ 7 := by
  unfold ofR
  split
  · rename_i h; rw [cutL_length]; exact h.2.1
  · simp

theorem readP_length (l : List Int) : (readP l).length = 7 := by
  unfold readP
  split
  · rename_i h; exact padR_length l h.2.1
  · rfl

end Go.Proofs.Ytamnacgclhaggaa

namespace Go.Proofs.Ytamnacgclhaggaa
open Go.ChangeShapes Go.WideShapes Go.ChangeAt Go.RowKit

theorem own_keep {w w' : World} {B D : Nat} {v : Value} {l : List Int} (h : Own w B v l) (hb : Below D w w') (hD : ∀ k, v.ownBlock = some k → k < D) : Own w' B v l := by
  refine ⟨h.1, ?_⟩
  rcases h.2 with e | ⟨g, cap, cur, hv, hg, hh, r⟩
  · exact .inl e
  · exact .inr ⟨g, cap, cur, hv, hg, by rw [hb.block g (hD g (by rw [hv]; rfl))]; exact hh, r⟩
theorem own_head {w : World} {B : Nat} {v : Value} {l : List Int} (h : Own w B v l) (hl : 0 < l.length) :
    ∃ g cap, v = .slice (some ⟨g, 0, none⟩) l.length cap ∧ l.length ≤ cap ∧ ∀ k, k < l.length → w.cell? ⟨g, k, none⟩ = some (.int .i64 (l.getD k 0)) := by
  rcases h.2 with ⟨_, h0⟩ | ⟨g, cap, cur, rfl, hg, hh, hnc, hcm, hcs, ht⟩
  · omega
  · refine ⟨g, cap, rfl, hnc, fun k hk => ?_⟩
    rw [h.cellAt k (by omega), ints_get _ _ hk]
theorem ownG_less {w : World} {B B' : Nat} {v : Value} {l : List Int} (h : OwnG w B v l) (hB : B' ≤ B) : OwnG w B' v l := by
  rcases h with h | ⟨g, o, c, cur, hv, hg, r⟩
  · exact .inl h
  · exact .inr ⟨g, o, c, cur, hv, Nat.le_trans hB hg, r⟩

/-- Where the points between x and y end on the list that begins with x. -/
def endN (l : List Int) (x y : Int) : Nat := if x = y then l.length else (stepsI l x y).toNat
def fromL (l : List Int) (x y : Int) : List Int := ((cutL l x).take (endN l x y)).drop 1
def fromR (l : List Int) (x y : Int) : List Int := if hasB2 l x y then fromL l x y else []

theorem steps_zero (l : List Int) (x y : Int) (ht : Tell l) (hx : x ∈ l) (hy : y ∈ l) : (stepsI l x y = 0 ↔ x = y) ∧ 0 ≤ stepsI l x y ∧ stepsI l x y < l.length := by
  have hix := List.idxOf_lt_length_of_mem hx
  have hiy := List.idxOf_lt_length_of_mem hy
  have h3 := ht.1
  unfold stepsI
  refine ⟨⟨fun h => ?_, fun h => by subst h; simp⟩, Int.emod_nonneg _ (by omega), Int.emod_lt_of_pos _ (by omega)⟩
  have hd := Int.dvd_of_emod_eq_zero h
  obtain ⟨k, hk⟩ := hd
  have hk0 : k = 0 := by
    rcases Int.lt_trichotomy k 0 with hlt | h0 | hgt
    · exfalso
      have : (l.length : Int) * k ≤ (l.length : Int) * (-1) := Int.mul_le_mul_of_nonneg_left (by omega) (by omega)
      omega
    · exact h0
    · exfalso
      have : (l.length : Int) * 1 ≤ (l.length : Int) * k := Int.mul_le_mul_of_nonneg_left (by omega) (by omega)
      omega
  rw [hk0] at hk
  have e : l.idxOf x = l.idxOf y := by omega
  rw [← at_idx l x hx, e, at_idx l y hy]

theorem endN_of (l : List Int) (x y : Int) (ht : Tell l) (hx : x ∈ l) (hy : y ∈ l) :
    1 ≤ endN l x y ∧ endN l x y ≤ l.length ∧ (if stepsI l x y = 0 then (endN l x y : Int) = l.length else (endN l x y : Int) = stepsI l x y) := by
  obtain ⟨h1, h2, h3⟩ := steps_zero l x y ht hx hy
  have h4 := ht.1
  unfold endN
  by_cases e : x = y
  · rw [if_pos e, if_pos (h1.2 e)]
    omega
  · have hne : ¬ stepsI l x y = 0 := fun h => e (h1.1 h)
    rw [if_neg e, if_neg hne]
    omega
theorem fromL_length (l : List Int) (x y : Int) (h : endN l x y ≤ (cutL l x).length) : (fromL l x y).length = endN l x y - 1 := by
  unfold fromL
  rw [List.length_drop, List.length_take]
  omega
theorem fromL_get (l : List Int) (x y : Int) (j : Nat) (hj : j < endN l x y - 1) (_ : endN l x y ≤ (cutL l x).length) : (fromL l x y).getD j 0 = (cutL l x).getD (1 + j) 0 := by
  unfold fromL
  simp only [List.getD, List.getElem?_drop, List.getElem?_take]
  rw [if_pos (by omega)]
theorem fromR_length (l : List Int) (x y : Int) : (fromR l x y).length ≤ 7 := by
  unfold fromR
  split
  · rename_i h
    simp only [hasB2, Bool.and_eq_true] at h
    have h3 := hasB_yes h.1
    have := h3.1.1.2.1
    unfold fromL
    rw [List.length_drop, List.length_take, cutL_length]
    omega
  · simp

end Go.Proofs.Ytamnacgclhaggaa

namespace Go.Proofs.Ytamnacgclhaggaa
open Go.ChangeShapes Go.WideShapes Go.ChangeAt Go.RowKit

/-- The list gone round the other way from its first point. -/
def backL (l : List Int) : List Int := (List.range l.length).map fun i => l.getD ((l.length - i) % l.length) 0
@[simp] theorem backL_length (l : List Int) : (backL l).length = l.length := by simp [backL]
theorem backL_get (l : List Int) (k : Nat) (hk : k < l.length) : (backL l).getD k 0 = l.getD ((l.length - k) % l.length) 0 := by
  simp [backL, List.getD, hk]

/-- The array half gone back. -/
def backK (l : List Int) (k : Nat) : List Int := (backL l).take k ++ (padR l).drop k
theorem backK_length (l : List Int) (k : Nat) (hk : k ≤ l.length) (h7 : l.length ≤ 7) : (backK l k).length = 7 := by
  have := padR_length l h7
  simp [backK]; omega
theorem backK_step (l : List Int) (k : Nat) (hk : k < l.length) (h7 : l.length ≤ 7) : (backK l k).set k (l.getD ((l.length - k) % l.length) 0) = backK l (k + 1) := by
  rw [← backL_get l k hk]
  unfold backK
  have hl : ((backL l).take k).length = k := by simp; omega
  have hp := padR_length l h7
  rw [List.set_append_right _ _ (by omega), hl, Nat.sub_self, List.drop_eq_getElem_cons (by omega : k < (padR l).length), List.set_cons_zero]
  rw [List.take_succ_eq_append_getElem (by simpa using hk), List.append_assoc]
  simp [List.getD, hk]
theorem backK_full (l : List Int) : backK l l.length = padR (backL l) := by
  unfold backK padR
  rw [List.take_of_length_le (by simp), List.drop_append, backL_length]
  simp
theorem backK_one (l : List Int) (h1 : 1 ≤ l.length) (h7 : l.length ≤ 7) : backK l 1 = padR l := by
  have hp := padR_length l h7
  have h0 : (backK l 0) = padR l := by simp [backK]
  have hs := backK_step l 0 (by omega) h7
  rw [h0, Nat.sub_zero, Nat.mod_self] at hs
  rw [← hs]
  apply ext_getD _ _ (by simp)
  intro k hk
  by_cases e : k = 0
  · subst e
    have := padR_get l 0 (by omega)
    simp only [List.getD_eq_getElem?_getD, List.getElem?_set, if_true] at this ⊢
    rw [if_pos (by omega)]
    exact this.symm
  · simp [List.getD_eq_getElem?_getD, Ne.symm e]

/-- The world of back before its loop: the box, the room for the result, a callee's box, the copy. -/
theorem back_world (w : World) (c z : Array Value) (P Z : List Int) (hc : c = (ints P).toArray) (hz : z = (ints Z).toArray) (W : World)
    (hW : W = (((w.alloc (.cells c 53)).alloc (.cells z 53)).alloc (.cells c 53)).alloc (.cells c 53)) :
    Arr W w.heap.size P ∧ Arr W (w.heap.size + 1) Z ∧ Arr W (w.heap.size + 1 + 1 + 1) P ∧ Below w.heap.size w W ∧ W.heap.size = w.heap.size + 4 := by
  subst hc; subst hz; subst hW
  refine ⟨?_, ?_, ?_, ?_, by simp⟩
  · have h : Arr (w.alloc (.cells (ints P).toArray 53)) w.heap.size P := heap_alloc_new w _
    exact ((h.alloc _).alloc _).alloc _
  · have h : Arr ((w.alloc (.cells (ints P).toArray 53)).alloc (.cells (ints Z).toArray 53)) (w.heap.size + 1) Z := heap_alloc2_new w _ _
    exact (h.alloc _).alloc _
  · have := heap_alloc_new (((w.alloc (.cells (ints P).toArray 53)).alloc (.cells (ints Z).toArray 53)).alloc (.cells (ints P).toArray 53)) (.cells (ints P).toArray 53)
    simp only [World.alloc, Array.size_push] at this ⊢
    exact this
  · exact ((((Below.refl _ _).alloc (Nat.le_refl _) _).alloc (by simp) _).alloc (by simp; omega) _).alloc (by simp; omega) _

set_option maxHeartbeats 1000000 in
theorem back_any (l : List Int) (w : World) (h1 : 1 ≤ l.length) (hl : l.length ≤ 7) (hp : ∀ x ∈ l, 0 ≤ x) :
    Calls Try.prog 57 #[agp l] w fun e w' => e = .returned (agp (backL l)) ∧ Below w.heap.size w w' := by
  obtain ⟨a0, a1, a2, a3, a4, a5, a6, hP⟩ := seven (padR_length l hl)
  have HS := fun W => Lib.hid (size_any l W hl hp)
  have hz : backK l 1 = [a0, a1, a2, a3, a4, a5, a6] := by rw [backK_one l h1 hl, hP]
  have hga : ∀ k, k < l.length → ([a0, a1, a2, a3, a4, a5, a6] : List Int).getD k 0 = l.getD k 0 := fun k hk => by rw [← hP]; exact padR_get l k hk
  have HGA := Lib.hid hga
  unfold agp at HS ⊢
  rw [hP] at HS ⊢
  simp only [ints, List.map_cons, List.map_nil] at HS ⊢
  have hzz : (List.map (Value.int IntKind.i64) (padR (backL l))) = ints (backK l l.length) := by rw [backK_full]; rfl
  rw [hzz]
  clear hzz hP hp hga
  generalize hn : l.length = n at *
  have HN := Lib.hid hn
  have HZ := Lib.hid hz
  have HSS := Lib.hid HS
  clear hn hz HS
  go_enter Try.func57, Try.ntmps57
  go_wp2_with (go_at_call 107; refine ((HSS.out _).out).mono ?_; rintro e w' ⟨rfl, rfl⟩)
  obtain ⟨W, hW⟩ : ∃ W, W = (((w.alloc (.cells #[.int .i64 a0, .int .i64 a1, .int .i64 a2, .int .i64 a3, .int .i64 a4, .int .i64 a5, .int .i64 a6] 53)).alloc (.cells #[.int .i64 0, .int .i64 0, .int .i64 0, .int .i64 0, .int .i64 0, .int .i64 0, .int .i64 0] 53)).alloc (.cells #[.int .i64 a0, .int .i64 a1, .int .i64 a2, .int .i64 a3, .int .i64 a4, .int .i64 a5, .int .i64 a6] 53)).alloc (.cells #[.int .i64 a0, .int .i64 a1, .int .i64 a2, .int .i64 a3, .int .i64 a4, .int .i64 a5, .int .i64 a6] 53) := ⟨_, rfl⟩
  rw [← hW]
  obtain ⟨k1, k2, k3, k4, k5⟩ := back_world w _ _ [a0, a1, a2, a3, a4, a5, a6] zero7 rfl rfl W hW
  rw [← HZ.out] at k3
  have HB := Lib.hid k1
  have HR := Lib.hid k2
  have HG := Lib.hid k3
  clear k1 k2 k3 hW
  generalize hB : w.heap.size = B at *
  have HBB := Lib.hid hB
  clear hB k5
  go_loopw [5] (fun i wr => ∃ k : Nat, 1 ≤ k ∧ k ≤ n ∧ i = .int .i64 k ∧ Hid (Arr wr (B + 1 + 1 + 1) (backK l k)) ∧ Hid (Arr wr B [a0, a1, a2, a3, a4, a5, a6]) ∧ Hid (Arr wr (B + 1) zero7) ∧ Below B w wr) (fun i _ => n - (intOf i).toNat)
  case atStart => exact ⟨1, by omega, h1, rfl, HG, HB, HR, k4⟩
  case round =>
    obtain ⟨k, hk1, hk, rfl, hG, hB, hR, hbl⟩ := hrel
    clear HG HB HR k4
    by_cases hlt : k < n
    · have hcb := hB.out.cell (i := n - k) (by simp; omega)
      rw [HGA.out _ (by omega)] at hcb
      have hG7 := backK_length l k (by rw [HN.out]; exact hk) (by rw [HN.out]; exact hl)
      have hcg := hG.out.cell (i := k) (by rw [hG7]; omega)
      have hfg := hG.out.frozen k
      have hst := hG.out.set_ k (l.getD (n - k) 0)
      have hsp := backK_step l k (by rw [HN.out]; exact hlt) (by rw [HN.out]; exact hl)
      rw [HN.out, Nat.mod_eq_of_lt (by omega : n - k < n)] at hsp
      rw [hsp] at hst
      have HST := Lib.hid hst
      clear hst hG7 hsp
      generalize (backK l k).getD k 0 = old at hcg
      generalize l.getD (n - k) 0 = y at hcb HST
      go_wp2
      go_roundw
      case rel => exact ⟨k + 1, by omega, by omega, by go_num, HST, Lib.hid (hB.out.far (by simp; omega) _), Lib.hid (hR.out.far (by simp) _), hbl.setCell (by simp; omega) _⟩
      case measure => simp [intOf]; omega
    · obtain rfl : k = n := by omega
      have h7 : Hid ((backK l k).length = 7) := backK_length l k (by rw [HN.out]; exact hk) (by rw [HN.out]; exact hl)
      generalize hPR : backK l k = PR at *
      have HPR := Lib.hid hPR
      clear hPR
      go_wp2_with (first
        | (refine load_ring rfl _ rfl (B + 1 + 1 + 1) PR h7.out rfl hG ?_)
        | (refine store_ring rfl _ _ rfl (B + 1) zero7 PR rfl h7.out rfl rfl hR ?_; intro w6 HB6 hg6 _))
      try simp only [Exit.inBlock, Exit.then]
      exact ret_ring rfl (B + 1) PR h7.out rfl HB6 rfl ⟨by rw [HPR.out], by rw [HBB.out]; exact hbl.grown hg6 (by have := hbl.size; have := HBB.out; omega) (by simp)⟩
end Go.Proofs.Ytamnacgclhaggaa

namespace Go.Proofs.Ytamnacgclhaggaa
open Go.ChangeShapes Go.WideShapes Go.ChangeAt Go.RowKit

def backR (l : List Int) : List Int := if Ring l then backL l else []
theorem backR_length (l : List Int) : (backR l).length ≤ 7 := by
  unfold backR
  split
  · rename_i h; rw [backL_length]; exact h.1.2.1
  · simp
theorem backL_pos (l : List Int) (h : Tell l) : ∀ x ∈ backL l, 0 ≤ x := fun x hx => by
  obtain ⟨i, _, rfl⟩ := List.mem_map.1 hx
  exact h.pos _ (getD_mem l _ (Nat.mod_lt _ (by have := h.1; omega)))

set_option maxHeartbeats 1000000 in
theorem bkI_any (A : Option Addr) (n c H : Nat) (l : List Int) (w : World) (h : Rd w H A n l) (hH : H ≤ w.heap.size) (hn : n ≤ 1048576) (hnc : n ≤ c) (hcm : c ≤ 9223372036854775807) :
    Calls Try.prog 21 #[.slice A n c] w fun e w' => ∃ v, e = .returned (.tuple #[v, .bool (ringB l)]) ∧ Own w' w.heap.size v (backR l) ∧ Below w.heap.size w w' := by
  have hread := Lib.hid (readR_any A n c H l w h hH hn hnc hcm)
  have H7 := Lib.hid (ringP_length l)
  by_cases ht : Ring l
  · have hR : Hid (backR l = backL l) := by rw [Hid, backR, if_pos ht]
    have hP : Hid (ringP l = padR l) := by rw [Hid, ringP, if_pos ht]
    have hcut := fun W => Lib.hid (back_any l W (by have := ht.1.1; omega) ht.1.2.1 ht.1.pos)
    have hlist := fun W => Lib.hid (list_any (backL l) W (by have := ht.1.1; rw [backL_length]; omega) (by rw [backL_length]; exact ht.1.2.1) (backL_pos l ht.1))
    have HC := Lib.hid hcut
    have HLI := Lib.hid hlist
    rw [hR.out]
    rw [ring_yes ht] at hread ⊢
    rw [hP.out] at hread H7
    clear hcut hlist ht hR hP
    unfold agp at HC HLI
    generalize padR l = P at *
    generalize backL l = C at *
    generalize padR C = Q at *
    go_enter Try.func21, Try.ntmps21
    go_wp2_with fail
    refine hread.out.mono ?_
    rintro e W1 ⟨rfl, hb1⟩
    have HA := Lib.hid (new_ring W1)
    go_wp2_with (first
      | (refine store_ring rfl _ _ rfl W1.heap.size zero7 P rfl H7.out rfl rfl HA ?_; intro w2 HA2 hg2 hs2)
      | (refine load_ring rfl _ rfl W1.heap.size P H7.out rfl HA2 ?_))
    have hb2 := Lib.hid ((hb1.alloc hb1.size (.cells #[.int .i64 0, .int .i64 0, .int .i64 0, .int .i64 0, .int .i64 0, .int .i64 0, .int .i64 0] 53)).grown hg2 (by have := hb1.size; simp; omega) (by have := hb1.size; simp; omega))
    clear hg2 hs2 hb1
    refine ((HC.out _).out).mono ?_
    rintro e w3 ⟨rfl, hb3⟩
    have hb4 := Lib.hid (hb2.out.trans (hb3.mono hb2.out.size))
    clear hb3
    go_wp2_with fail
    refine ((HLI.out _).out).mono ?_
    rintro e w5 ⟨v, rfl, ho, hb5⟩
    have HO := Lib.hid (own_less ho hb4.out.size)
    have hb6 := Lib.hid (hb4.out.trans (hb5.mono hb4.out.size))
    clear ho hb5
    go_wp2
    go_ret2
    exact ⟨_, rfl, HO.out, hb6.out⟩
  · have hR : backR l = [] := by rw [backR, if_neg ht]
    rw [hR]
    rw [ring_no ht] at hread ⊢
    clear hR ht
    generalize ringP l = P at *
    go_enter Try.func21, Try.ntmps21
    go_wp2_with fail
    refine hread.out.mono ?_
    rintro e W1 ⟨rfl, hb1⟩
    have HA := Lib.hid (new_ring W1)
    go_wp2_with (refine store_ring rfl _ _ rfl W1.heap.size zero7 P rfl H7.out rfl rfl HA ?_; intro w2 HA2 hg2 hs2)
    have hb2 := (hb1.alloc hb1.size (.cells #[.int .i64 0, .int .i64 0, .int .i64 0, .int .i64 0, .int .i64 0, .int .i64 0, .int .i64 0] 53)).grown hg2 (by have := hb1.size; simp; omega) (by have := hb1.size; simp; omega)
    clear hg2 hs2 hb1
    go_ret2
    exact ⟨_, rfl, World.ownsRow_nil _ _ _ _, hb2⟩
end Go.Proofs.Ytamnacgclhaggaa

namespace Go.Proofs.Ytamnacgclhaggaa
open Go.ChangeShapes Go.WideShapes Go.ChangeAt Go.RowKit

theorem idxAt {l : List Int} (hn : l.Nodup) {i : Nat} (hi : i < l.length) : l.idxOf (l.getD i 0) = i := by
  have e : l.getD i 0 = l[i] := by simp [List.getD, hi]
  rw [e]
  exact hn.idxOf_getElem i hi
/-- The steps the other way. -/
theorem steps_back {l : List Int} (_ : Tell l) {x y : Int} (hx : x ∈ l) (hy : y ∈ l) (hne : l.idxOf x ≠ l.idxOf y) : stepsI l y x = (l.length : Int) - stepsI l x y := by
  have h1 := List.idxOf_lt_length_of_mem hx
  have h2 := List.idxOf_lt_length_of_mem hy
  unfold stepsI
  generalize l.idxOf x = p at *
  generalize l.idxOf y = q at *
  rcases Nat.lt_or_ge p q with hpq | hpq
  · rw [Int.emod_eq_of_lt (show (0 : Int) ≤ (q : Int) - p by omega) (by omega), ← Int.add_emod_right, Int.emod_eq_of_lt (by omega) (by omega)]; omega
  · rw [Int.emod_eq_of_lt (show (0 : Int) ≤ (p : Int) - q by omega) (by omega), ← Int.add_emod_right ((q : Int) - p), Int.emod_eq_of_lt (by omega) (by omega)]; omega
theorem backL_nodup' {l : List Int} (ht : Tell l) : (backL l).Nodup ∧ ∀ x, x ∈ l → (backL l).idxOf x = (l.length - l.idxOf x) % l.length := by
  have hn := ht.2.2.2
  have h3 := ht.1
  have hinj : (backL l).Nodup := by
    unfold backL List.Nodup
    rw [List.pairwise_map]
    refine List.Pairwise.imp_of_mem (R := (· < ·)) ?_ List.pairwise_lt_range
    intro a b ha hb hab e
    have ha' := List.mem_range.1 ha
    have hb' := List.mem_range.1 hb
    have m1 : (l.length - a) % l.length < l.length := Nat.mod_lt _ (by omega)
    have m2 : (l.length - b) % l.length < l.length := Nat.mod_lt _ (by omega)
    have q1 := idxAt hn m1
    have q2 := idxAt hn m2
    rw [e, q2] at q1
    have c2 : (l.length - b) % l.length = l.length - b := Nat.mod_eq_of_lt (by omega)
    by_cases h0 : a = 0
    · subst h0
      rw [Nat.sub_zero, Nat.mod_self, c2] at q1
      omega
    · rw [Nat.mod_eq_of_lt (show l.length - a < l.length by omega), c2] at q1
      omega
  refine ⟨hinj, fun x hx => ?_⟩
  have hi := List.idxOf_lt_length_of_mem hx
  have m1 : (l.length - l.idxOf x) % l.length < l.length := Nat.mod_lt _ (by omega)
  have hg := backL_get l _ m1
  have e : (l.length - (l.length - l.idxOf x) % l.length) % l.length = l.idxOf x := by
    by_cases h0 : l.idxOf x = 0
    · rw [h0, Nat.sub_zero, Nat.mod_self, Nat.sub_zero, Nat.mod_self]
    · rw [Nat.mod_eq_of_lt (show l.length - l.idxOf x < l.length by omega), show l.length - (l.length - l.idxOf x) = l.idxOf x by omega, Nat.mod_eq_of_lt hi]
  have ex : l.getD (l.idxOf x) 0 = x := by
    have := List.getElem_idxOf hi
    simp [List.getD, hi, this]
  rw [e, ex] at hg
  have := idxAt hinj (i := (l.length - l.idxOf x) % l.length) (by rw [backL_length]; exact m1)
  rw [hg] at this
  exact this
theorem backL_tell' {l : List Int} (h : Tell l) : Tell (backL l) := by
  refine ⟨by rw [backL_length]; exact h.1, by rw [backL_length]; exact h.2.1, fun x hx => ?_, (backL_nodup' h).1⟩
  obtain ⟨i, _, rfl⟩ := List.mem_map.1 hx
  rw [backL_length]
  exact h.2.2.1 _ (getD_mem l _ (Nat.mod_lt _ (by have := h.1; omega)))
theorem backL_ring' {l : List Int} (h : Ring l) : Ring (backL l) := ⟨backL_tell' h.1, by rw [backL_get l 0 (by have := h.1.1; omega), Nat.sub_zero, Nat.mod_self, h.2]⟩
theorem steps_backL {l : List Int} (ht : Tell l) {x y : Int} (hx : x ∈ l) (hy : y ∈ l) (hne : l.idxOf x ≠ l.idxOf y) : stepsI (backL l) x y = (l.length : Int) - stepsI l x y := by
  rw [← steps_back ht hx hy hne]
  have h1 := List.idxOf_lt_length_of_mem hx
  have h2 := List.idxOf_lt_length_of_mem hy
  unfold stepsI
  rw [(backL_nodup' ht).2 x hx, (backL_nodup' ht).2 y hy, backL_length]
  generalize l.idxOf x = p at *
  generalize l.idxOf y = q at *
  have hn := ht.1
  generalize l.length = n at *
  have c : ∀ r, r < n → ((n - r) % n : Nat) = if r = 0 then 0 else n - r := fun r hr => by
    by_cases h0 : r = 0
    · rw [if_pos h0, h0, Nat.sub_zero, Nat.mod_self]
    · rw [if_neg h0, Nat.mod_eq_of_lt (by omega)]
  rw [c p h1, c q h2]
  have e : ((if q = 0 then 0 else n - q : Nat) : Int) - ((if p = 0 then 0 else n - p : Nat) : Int) = ((p : Int) - q) ∨ ((if q = 0 then 0 else n - q : Nat) : Int) - ((if p = 0 then 0 else n - p : Nat) : Int) = ((p : Int) - q) + n ∨ ((if q = 0 then 0 else n - q : Nat) : Int) - ((if p = 0 then 0 else n - p : Nat) : Int) + n = ((p : Int) - q) := by
    split <;> split <;> omega
  rcases e with e | e | e
  · rw [e]
  · rw [e, Int.add_emod_right]
  · rw [← e, Int.add_emod_right]

theorem ofR_ring {l : List Int} (h : Ring l) : ofR l = l := by
  rw [ofR, if_pos h.1]; exact cut_zero l (idx_zero l (by have := h.1.1; omega) h.2)
theorem backL_back (l : List Int) : backL (backL l) = l := by
  refine ext_getD _ _ (by rw [backL_length, backL_length]) fun k hk => ?_
  rw [backL_length, backL_length] at hk
  rw [backL_get _ k (by rw [backL_length]; exact hk), backL_length, backL_get l _ (Nat.mod_lt _ (by omega))]
  congr 1
  by_cases h0 : k = 0
  · subst h0; simp
  · rw [Nat.mod_eq_of_lt (show l.length - k < l.length by omega), show l.length - (l.length - k) = k by omega, Nat.mod_eq_of_lt hk]
theorem backL_other {l : List Int} (h : Tell l) : backL l ≠ l := fun e => by
  have h3 := h.1
  have hg := backL_get l 1 (by omega)
  rw [e, Nat.mod_eq_of_lt (by omega)] at hg
  have a := idxAt h.2.2.2 (i := 1) (by omega)
  have b := idxAt h.2.2.2 (i := l.length - 1) (by omega)
  rw [hg, b] at a
  omega
theorem cutL_len (l : List Int) (x : Int) : (cutL l x).length = l.length := by simp [cutL]
theorem cutL_idx {l : List Int} {x y : Int} (h : Tell l) (hx : x ∈ l) (hy : y ∈ l) : (l.idxOf x + (cutL l x).idxOf y) % l.length = l.idxOf y ∧ (cutL l x).idxOf y < l.length := by
  have hm : y ∈ cutL l x := (cutL_mem l x y hx).2 hy
  have hi := List.idxOf_lt_length_of_mem hm
  rw [cutL_len] at hi
  have e := cutL_get l x ((cutL l x).idxOf y) hi
  rw [at_idx _ y hm] at e
  have hlt : (l.idxOf x + (cutL l x).idxOf y) % l.length < l.length := Nat.mod_lt _ (by omega)
  have := idxAt h.2.2.2 hlt
  rw [← e] at this
  exact ⟨this.symm, hi⟩
theorem cut_cut {l : List Int} {x y : Int} (h : Tell l) (hx : x ∈ l) (hy : y ∈ l) : cutL (cutL l x) y = cutL l y := by
  obtain ⟨e, hi⟩ := cutL_idx h hx hy
  refine ext_getD _ _ (by rw [cutL_len, cutL_len, cutL_len]) fun k hk => ?_
  rw [cutL_len, cutL_len] at hk
  have hn : 0 < l.length := by omega
  rw [cutL_get _ y k (by rw [cutL_len]; exact hk), cutL_get l y k hk, cutL_len, cutL_get l x _ (Nat.mod_lt _ hn)]
  congr 1
  rw [Nat.add_mod_mod, ← e, Nat.mod_add_mod]
  congr 1
  omega
theorem cut_head {l : List Int} (h : Tell l) : cutL l (l.getD 0 0) = l := by
  have h3 := h.1
  have e := idxAt h.2.2.2 (i := 0) (by omega)
  refine ext_getD _ _ (by rw [cutL_len]) fun k hk => ?_
  rw [cutL_len] at hk
  rw [cutL_get l _ k hk, e, Nat.zero_add, Nat.mod_eq_of_lt hk]
theorem cut_first {l : List Int} {x : Int} (hx : x ∈ l) : (cutL l x).getD 0 0 = x := by
  have hi := List.idxOf_lt_length_of_mem hx
  rw [cutL_get l x 0 (by omega), Nat.add_zero, Nat.mod_eq_of_lt hi, at_idx l x hx]
theorem hasB_of {l : List Int} {x : Int} (h : Ring l) (hx : x ∈ l) : hasB l x = true := by
  have := h.1.2.2.1 x hx
  rw [hasB, ring_yes h]
  simpa using this
theorem hasB_no {l : List Int} {x : Int} (h : hasB l x ≠ true) : hasB l x = false := by simpa using h
theorem idx_apart {l : List Int} {x y : Int} (hx : x ∈ l) (hy : y ∈ l) (hne : x ≠ y) : l.idxOf x ≠ l.idxOf y := fun e => by
  have h1 := List.getElem_idxOf (List.idxOf_lt_length_of_mem hx)
  have h2 := List.getElem_idxOf (List.idxOf_lt_length_of_mem hy)
  exact hne (by rw [← h1, ← h2]; simp only [e])
theorem backL_mem {l : List Int} {x : Int} (hx : x ∈ l) : x ∈ backL l := by
  have hi := List.idxOf_lt_length_of_mem hx
  have hn : 0 < l.length := by omega
  have m1 : (l.length - l.idxOf x) % l.length < l.length := Nat.mod_lt _ hn
  have hg := backL_get l _ m1
  have e : (l.length - (l.length - l.idxOf x) % l.length) % l.length = l.idxOf x := by
    by_cases h0 : l.idxOf x = 0
    · rw [h0, Nat.sub_zero, Nat.mod_self, Nat.sub_zero, Nat.mod_self]
    · rw [Nat.mod_eq_of_lt (show l.length - l.idxOf x < l.length by omega), show l.length - (l.length - l.idxOf x) = l.idxOf x by omega, Nat.mod_eq_of_lt hi]
  rw [e, at_idx l x hx] at hg
  rw [← hg]
  exact getD_mem _ _ (by rw [backL_length]; exact m1)
theorem hasB2_no {l : List Int} {x y : Int} (h : ¬ hasB2 l x y = true) : hasB2 l x y = false := by simpa using h
theorem hasB2_yes {l : List Int} {x y : Int} (h : hasB2 l x y = true) : hasB l x = true ∧ hasB l y = true := by simpa [hasB2] using h
end Go.Proofs.Ytamnacgclhaggaa

namespace Go.Proofs.Ytamnacgclhaggaa
open Go.ChangeShapes Go.WideShapes Go.ChangeAt Go.RowKit

/-- How many points between the places i and k are less than the one at i. -/
def cnt (l : List Int) (i : Nat) : Nat → Nat
  | 0 => 0
  | k + 1 => cnt l i k + if i < k ∧ l.getD k 0 < l.getD i 0 then 1 else 0
theorem cnt_le (l : List Int) (i k : Nat) : cnt l i k ≤ k := by
  induction k with
  | zero => simp [cnt]
  | succ k ih => rw [cnt]; split <;> omega
theorem cnt_start (l : List Int) (i : Nat) : ∀ k, k ≤ i + 1 → cnt l i k = 0
  | 0, _ => rfl
  | k + 1, h => by rw [cnt, cnt_start l i k (by omega), if_neg (by omega)]
theorem cnt_zero (l : List Int) (h0 : l.getD 0 0 = 0) (h : ∀ x ∈ l, 0 ≤ x) : ∀ k, k ≤ l.length → cnt l 0 k = 0
  | 0, _ => rfl
  | k + 1, hk => by
    rw [cnt, cnt_zero l h0 h k (by omega), if_neg]
    rintro ⟨_, hlt⟩
    have := h _ (getD_mem l k (by omega))
    omega
def numP (l : List Int) : Nat → Int
  | 0 => 0
  | m + 1 => numP l m + (cnt l m l.length : Int) * facN (l.length - 1 - m)
theorem facN_bd (m : Nat) : 1 ≤ facN m ∧ facN m ≤ 5040 := by
  match m with
  | 0 | 1 | 2 | 3 | 4 | 5 | 6 => simp [facN]
  | _ + 7 => simp [facN]
theorem prod_bd (c : Nat) (f : Int) (hc : c ≤ 7) (hf : 1 ≤ f ∧ f ≤ 5040) : 0 ≤ (c : Int) * f ∧ (c : Int) * f ≤ 35280 := by
  obtain rfl | rfl | rfl | rfl | rfl | rfl | rfl | rfl : c = 0 ∨ c = 1 ∨ c = 2 ∨ c = 3 ∨ c = 4 ∨ c = 5 ∨ c = 6 ∨ c = 7 := by omega
  all_goals omega
theorem numP_bd (l : List Int) (hl : l.length ≤ 7) : ∀ m, m ≤ 7 → 0 ≤ numP l m ∧ numP l m ≤ 35280 * m
  | 0, _ => by simp [numP]
  | m + 1, h => by
    have ih := numP_bd l hl m (by omega)
    have hb := prod_bd (cnt l m l.length) (facN (l.length - 1 - m)) (by have := cnt_le l m l.length; omega) (facN_bd _)
    rw [numP]
    push_cast
    omega

theorem facS_nat (m : Nat) (k : Int) (w : World) (hk : k = m) (hm : m ≤ 6) :
    Calls Try.prog 85 #[.int .i64 k] w fun e w' => e = .returned (.int .i64 (facN m)) ∧ w = w' := by
  subst hk
  have := facS_any (m : Int) w (by omega) (by omega)
  rwa [Int.toNat_natCast] at this
theorem facI_nat (m : Nat) (k : Int) (w : World) (hk : k = m) (hm : m ≤ 6) :
    Calls Try.prog 118 #[.int .i64 k] w fun e w' => e = .returned (.int .i64 (facN m)) ∧ w = w' := by
  subst hk
  have := facI_any (m : Int) w (by omega) (by omega)
  rwa [Int.toNat_natCast] at this

/-- A cut of an array between two places. -/
theorem slice_ring2 (W : World) (b m n : Nat) (hm : m ≤ n) (hn : n ≤ 7) :
    ∃ ad : Addr, (m < 7 → ad = ⟨b, m, none⟩) ∧
    (Instr.sliceAt 53 (.pointer (some ⟨b, 0, none⟩)) (some (.int .i64 (m : Int))) (some (.int .i64 (n : Int))) none).run Try.prog W = .ok (.slice (some ad) (n - m) (7 - m)) W := by
  obtain ⟨i, hi, _, hs, _⟩ := info_parts int_info
  have hal : Try.prog.arrayLen 53 = 7 := by kernel_rfl
  have hel : Try.prog.elem 53 = 3 := by kernel_rfl
  have h := run_sliceAt_array_lh (P := Try.prog) W 53 ⟨b, 0, none⟩ (by rw [hal, hel]; exact Try.underlying53) .i64 .i64 (m : Int) (n : Int) (by omega) (by omega) (by rw [hal]; omega)
  have hc : Try.prog.cellsOf 3 = 1 := cells_int
  refine ⟨if 7 = m then ⟨b, 0, none⟩ else (⟨b, 0, none⟩ : Addr).add (m * 1), fun hlt => ?_, ?_⟩
  · rw [if_neg (by omega), Nat.mul_one, Addr.add_lit, Nat.zero_add]
  · rw [h, hel, run_sizeOf W hi, Result.andThen_ok, hal, hc]
    simp [slicedAt]

end Go.Proofs.Ytamnacgclhaggaa

namespace Go.Proofs.Ytamnacgclhaggaa
open Go.ChangeShapes Go.WideShapes Go.ChangeAt Go.RowKit

def rcount (n : Int) : Int := if 3 ≤ n ∧ n ≤ 7 then facN (n.toNat - 1) else 0

end Go.Proofs.Ytamnacgclhaggaa

namespace Go.Proofs.Ytamnacgclhaggaa
open Go.ChangeShapes Go.WideShapes Go.ChangeAt Go.RowKit

/-- Points taken one by one out of those that are left, by a number. -/
def takeBy : Nat → List Int → Int → List Int
  | 0, _, _ => []
  | m + 1, left, k => left.getD (k / facN m).toNat 0 :: takeBy m (left.eraseIdx (k / facN m).toNat) (k % facN m)

def upFrom (a : Int) (n : Nat) : List Int := (List.range n).map fun i : Nat => a + (i : Int)
@[simp] theorem upFrom_length (a : Int) (n : Nat) : (upFrom a n).length = n := by simp [upFrom]
theorem upFrom_snoc (a : Int) (n : Nat) : upFrom a (n + 1) = upFrom a n ++ [a + (n : Int)] := by simp [upFrom, List.range_succ]
theorem upFrom_cons (a : Int) (n : Nat) : upFrom a (n + 1) = a :: upFrom (a + 1) n := by
  simp [upFrom, List.range_succ_eq_map, Function.comp_def]
  intro i _
  omega
theorem upFrom_get (a : Int) (n k : Nat) (h : k < n) : (upFrom a n).getD k 0 = a + k := by simp [upFrom, List.getD, h]

theorem facN_succ (m : Nat) (h : m ≤ 6) : facN (m + 1) = ((m + 1 : Nat) : Int) * facN m := by
  obtain rfl | rfl | rfl | rfl | rfl | rfl | rfl : m = 0 ∨ m = 1 ∨ m = 2 ∨ m = 3 ∨ m = 4 ∨ m = 5 ∨ m = 6 := by omega
  all_goals decide

/-- The place that a number tells among m + 1 points that are left. -/
theorem place_bd (m : Nat) (k : Int) (h : m ≤ 6) (h0 : 0 ≤ k) (hk : k < facN (m + 1)) : 0 ≤ k / facN m ∧ k / facN m ≤ m ∧ 0 ≤ k % facN m ∧ k % facN m < facN m := by
  have hf := (facN_bd m).1
  rw [facN_succ m h] at hk
  refine ⟨Int.ediv_nonneg h0 (by omega), ?_, Int.emod_nonneg _ (by omega), Int.emod_lt_of_pos _ (by omega)⟩
  have := Int.ediv_lt_of_lt_mul (by omega : 0 < facN m) hk
  omega

theorem takeBy_length (m : Nat) (left : List Int) (k : Int) : (takeBy m left k).length = m := by
  induction m generalizing left k with
  | zero => rfl
  | succ m ih => simp [takeBy, ih]
theorem takeBy_mem : ∀ (m : Nat) (left : List Int) (k : Int), m ≤ 7 → left.length = m → 0 ≤ k → k < facN m → ∀ x ∈ takeBy m left k, x ∈ left
  | 0, _, _, _, _, _, _, x, hx => by simp [takeBy] at hx
  | m + 1, left, k, hm, hl, h0, hk, x, hx => by
    obtain ⟨h1, h2, h3, h4⟩ := place_bd m k (by omega) h0 hk
    rcases List.mem_cons.1 hx with rfl | hx
    · exact getD_mem left _ (by omega)
    · exact List.mem_of_mem_eraseIdx (takeBy_mem m _ _ (by omega) (by rw [List.length_eraseIdx]; rw [if_pos (by omega)]; omega) h3 h4 x hx)

/-- The ring of n points with the number k. -/
def byL (n : Nat) (k : Int) : List Int := takeBy n (upFrom 0 n) k
theorem byL_length (n : Nat) (k : Int) : (byL n k).length = n := takeBy_length n _ _
theorem byL_eq (n : Nat) (k : Int) (h1 : 1 ≤ n) (h7 : n ≤ 7) (h0 : 0 ≤ k) (hk : k < facN (n - 1)) : byL n k = 0 :: takeBy (n - 1) (upFrom 1 (n - 1)) k := by
  obtain ⟨m, rfl⟩ : ∃ m, n = m + 1 := ⟨n - 1, by omega⟩
  simp only [Nat.add_sub_cancel] at hk ⊢
  have hd : k / facN m = 0 := Int.ediv_eq_zero_of_lt h0 hk
  have hm : k % facN m = k := Int.emod_eq_of_lt h0 hk
  unfold byL
  rw [takeBy, hd, hm, upFrom_cons]
  rfl
theorem byL_pos (n : Nat) (k : Int) (h7 : n ≤ 7) (h0 : 0 ≤ k) (hk : k < facN n) : ∀ x ∈ byL n k, 0 ≤ x := fun x hx => by
  have := takeBy_mem n _ k h7 (by simp) h0 hk x hx
  obtain ⟨i, _, rfl⟩ := List.mem_map.1 this
  omega

/-- A number of points, and a number that there is. -/
def byB (n k : Int) : Bool := decide (3 ≤ n ∧ n ≤ 7 ∧ 0 ≤ k ∧ k < facN (n.toNat - 1))
def byR (n k : Int) : List Int := if byB n k then byL n.toNat k else []
theorem byR_length (n k : Int) : (byR n k).length ≤ 7 := by
  unfold byR
  split
  · rename_i h
    simp only [byB, decide_eq_true_eq] at h
    rw [byL_length]; omega
  · simp
end Go.Proofs.Ytamnacgclhaggaa

namespace Go.Proofs.Ytamnacgclhaggaa
open Go.ChangeShapes Go.WideShapes Go.ChangeAt Go.RowKit

/-- An append onto a row of the call's own, as one step of a region that draws its order. -/
theorem step_append_at {ops : Array Oper} {o : Oper} {a : Act} {K : Act → World → Prop} {Q : Exit → Act → World → Prop} {E : Prop} (w : World) (hgd : o.guard = none) (s x : Operand)
    (ho : o.op = .call { callee := .builtin .append, args := #[s, x], argTypes := #[23, 23] })
    (B : Nat) (v : Value) (n : Nat) (xs : List Value) (hs : a.eval s = v) (hown : w.ownsRow B 3 1 v n xs)
    (ad : Addr) (m c : Nat) (news : List Int) (hx : a.eval x = .slice (some ad) m c) (hl : news.length = m) (hnews : ∀ j u, (ints news)[j]? = some u → w.cell? (ad.add j) = some u)
    (h63 : n + m ≤ 1048576) (hbase : B ≤ w.heap.size)
    (h : ∀ v' w', w'.ownsRow B 3 1 v' (n + m) (xs ++ ints news) → w.grownBy w' v.ownBlock → (v'.ownBlock = v.ownBlock ∨ v'.ownBlock = some w.heap.size) → K (a.put o.dst v') w') :
    if Region.wanted o (yielded ops a.tmps) = true then Oper.wp Try.prog o a w K Q else E := by
  have hw : Region.wanted o (yielded ops a.tmps) = true := by simp [Region.wanted, hgd]
  rw [if_pos hw]
  obtain ⟨i0, hi, hz0, hz1, hz2⟩ := info_parts int_info
  obtain ⟨v', w', hr, h2, h3, _, h5⟩ := run_append_own_at (P := Try.prog) w B 23 o.type 3 i0 (.int .i64 0) 1 8 Try.underlying23 hi hz0 hz1 hz2 rfl (by decide) v n xs hown ad m c (ints news) (by simp [hl]) hnews (ints_oneCell news) (by unfold maxLen; omega) (by omega) hbase
  unfold Oper.wp execOp
  simp only [ho, resolve, invoke, builtin, Sem.run_bind, Sem.run_pure, Result.andThen_ok, List.map_toArray, List.map_cons, List.map_nil, hs, hx, hr]
  exact h v' w' h2 h3 h5

theorem elem_ints : Try.prog.elem 23 = 3 := by kernel_rfl

/-- The head of a slice up to a length. -/
theorem slice_head (W : World) (g n c m : Nat) (hm : m ≤ c) :
    (Instr.slice 23 (.slice (some ⟨g, 0, none⟩) n c) none (some (.int .i64 (m : Int))) none).run Try.prog W = .ok (.slice (some ⟨g, 0, none⟩) m c) W := by
  obtain ⟨i, hi, _, hs, _⟩ := info_parts int_info
  have h := run_slice_h (P := Try.prog) W 23 (some ⟨g, 0, none⟩) n c (by rw [elem_ints]; exact Try.underlying23) .i64 (m : Int) (by omega) (by omega)
  rw [h, elem_ints, run_sizeOf W hi, Result.andThen_ok]
  simp [sliced, Addr.add]

/-- The tail of a slice from a place on. -/
theorem slice_tail (W : World) (g n c m : Nat) (hm : m ≤ n) (_ : n ≤ c) :
    (Instr.slice 23 (.slice (some ⟨g, 0, none⟩) n c) (some (.int .i64 (m : Int))) none none).run Try.prog W = .ok (.slice (some (if c = m then ⟨g, 0, none⟩ else ⟨g, m, none⟩)) (n - m) (c - m)) W := by
  obtain ⟨i, hi, _, hs, _⟩ := info_parts int_info
  have h := run_slice_l (P := Try.prog) W 23 (some ⟨g, 0, none⟩) n c (by rw [elem_ints]; exact Try.underlying23) .i64 (m : Int) (by omega) (by omega)
  rw [h, elem_ints, run_sizeOf W hi, Result.andThen_ok, cells_int]
  by_cases e : c = m
  · simp [sliced, e]
  · simp [sliced, e, Addr.add_lit]

set_option maxRecDepth 4000 in
set_option maxHeartbeats 2000000 in
theorem byS_any (n : Nat) (k0 : Int) (w : World) (h3 : 3 ≤ n) (h7 : n ≤ 7) (h0 : 0 ≤ k0) (hk : k0 < facN (n - 1)) :
    Calls Try.prog 86 #[.int .i64 (n : Int), .int .i64 k0] w fun e w' => ∃ v, e = .returned v ∧ Own w' w.heap.size v (byL n k0) ∧ Below w.heap.size w w' := by
  obtain ⟨i0, hi, hz0, hz1, hz2⟩ := info_parts int_info
  have HC0 := Lib.hid (byL_eq n k0 (by omega) h7 h0 hk)
  have HCL := Lib.hid (byL_length n k0)
  have HK0 := Lib.hid hk
  clear hk
  generalize byL n k0 = C at *
  have ho0 := Lib.hid (own_empty w _ (Nat.le_refl _))
  have hb0 := (Below.refl w.heap.size w).alloc (Nat.le_refl _) (.cells #[] 3)
  go_enter Try.func86, Try.ntmps86
  go_wp2
  obtain ⟨W0, hW0⟩ : ∃ W, W = w.alloc (.cells #[] 3) := ⟨_, rfl⟩
  rw [← hW0] at ho0 hb0 ⊢
  clear hW0
  go_loopw [5, 6] (fun v i wr => ∃ k : Nat, k + 1 ≤ n ∧ i = .int .i64 ((k : Int) + 1) ∧ Hid (wr.ownsRow w.heap.size 3 1 v k (ints (upFrom 1 k))) ∧ Below w.heap.size w wr) (fun _ i _ => n - (intOf i).toNat)
  case atStart => exact ⟨0, by omega, by go_num, by simpa [Own, Hid, ints, upFrom] using ho0.out, hb0⟩
  case round =>
    obtain ⟨k, hk, rfl, hown, hbl⟩ := hrel
    clear ho0 hb0
    by_cases hlt : k + 1 < n
    · have hsn : Hid (ints (upFrom 1 k) ++ [.int .i64 ((k : Int) + 1)] = ints (upFrom 1 (k + 1))) := by
        rw [Hid, upFrom_snoc, ints, ints, List.map_append]
        simp [Int.add_comm]
      go_wp2_with (at_builtin; refine wpList_append_own _ rfl _ _ 23 rfl w.heap.size 3 i0 (.int .i64 0) 1 8 Try.underlying23 hi hz0 hz1 hz2 rfl (by decide) _ _ _ rfl (hown.out.alloc _) ⟨wr.heap.size, 0, none⟩ 1 1 [.int .i64 ((k : Int) + 1)] rfl rfl (one_cell wr _ _) (by simp [Value.oneCell']) (by unfold maxLen; omega) (by omega) (by have := hbl.size; simp; omega) ?_)
      intro v' w1 hown' hgrow _
      rw [hsn.out] at hown'
      have HO := Lib.hid hown'
      have hb1 := own_below hown.out hbl hbl.size hgrow
      clear hown' hgrow
      go_wp2
      go_roundw
      case rel => exact ⟨k + 1, by omega, by go_num, HO, hb1⟩
      case measure => simp [intOf]; omega
    · obtain ⟨k', rfl⟩ : ∃ k', k' = k := ⟨k, rfl⟩
      have hkn : k' + 1 = n := by omega
      have HKN := Lib.hid hkn
      have hln := hown.out.lt
      have HLB : Hid (∀ q, u5.ownBlock = some q → q < wr.heap.size) := fun q hq => (hln q hq).2
      have hs1 := hbl.size
      have hnl : (n : Int) ≤ (k' : Int) + 1 := by omega
      have hO : (wr.alloc (.cells #[.int .i64 0] 3)).ownsRow w.heap.size 3 1 (.slice (some ⟨wr.heap.size, 0, none⟩) 1 1) 1 (ints [0]) := World.ownsRow_lit wr #[.int .i64 0] 1 hs1 (by unfold maxLen; omega) rfl
      have hL : (wr.alloc (.cells #[.int .i64 0] 3)).ownsRow w.heap.size 3 1 u5 k' (ints (upFrom 1 k')) := hown.out.alloc _
      have hb2 := Lib.hid (hbl.alloc hs1 (.cells #[.int .i64 0] 3))
      have HO := Lib.hid hO
      have HL := Lib.hid hL
      have HNE : Hid (∀ q, u5.ownBlock = some q → (Value.slice (some ⟨wr.heap.size, 0, none⟩) 1 1).ownBlock ≠ some q) := fun q hq he => by
        have := HLB.out q hq
        simp [Value.ownBlock] at he
        omega
      clear hln hkn hO hL hown hbl HLB
      go_wp2
      obtain ⟨wo, rfl⟩ : ∃ wo : World, wo = wr := ⟨_, rfl⟩
      go_loopw [1, 5, 7, 8] (fun kk vl vo i wr => ∃ (m : Nat) (L O : List Int) (q : Int), m + 1 ≤ n ∧ i = .int .i64 ((m : Int) - 1) ∧ kk = .int .i64 q ∧ 0 ≤ q ∧
          Hid (q < facN m ∧ L.length = m ∧ O.length = n - m ∧ O ++ takeBy m L q = C) ∧ Hid (wr.ownsRow w.heap.size 3 1 vl m (ints L)) ∧ Hid (wr.ownsRow w.heap.size 3 1 vo (n - m) (ints O)) ∧
          Hid (∀ q, vl.ownBlock = some q → vo.ownBlock ≠ some q) ∧ Hid (Below w.heap.size w wr)) (fun _ _ _ i _ => (intOf i + 1).toNat)
      case atStart =>
        refine ⟨k', upFrom 1 k', [0], k0, by have := HKN.out; omega, by have := HKN.out; go_num, rfl, h0, ?_, HL, ?_, HNE, hb2⟩
        · have e := HKN.out
          have e1 : n - 1 = k' := by omega
          have e2 : n - k' = 1 := by omega
          refine ⟨by rw [← e1]; exact HK0.out, by simp, by rw [e2]; rfl, ?_⟩
          rw [HC0.out, e1]; rfl
        · have e2 : n - k' = 1 := by have := HKN.out; omega
          rw [e2]; exact HO
      case round =>
        obtain ⟨m, L, O, q, hm, rfl, rfl, hq0, hall, hL, hO, hne, hbl⟩ := hrel
        clear HL HO HNE hb2 HK0 HC0
        by_cases hm0 : m = 0
        · subst hm0
          have hfin : Hid (O = C) := by
            have := hall.out.2.2.2
            rw [takeBy, List.append_nil] at this
            exact this
          have hOl := hall.out.2.2.1
          have HOl := Lib.hid hOl
          clear hOl
          go_wp2
          go_ret
          refine ⟨_, rfl, ?_, hbl.out⟩
          have := hO.out
          rw [hfin.out] at this
          have e : n - 0 = C.length := by rw [← hfin.out, HOl.out]
          rw [e] at this
          exact this
        · obtain ⟨m', rfl⟩ : ∃ m', m = m' + 1 := ⟨m - 1, by omega⟩
          obtain ⟨hqf, hLl, hOl, hct⟩ := hall.out
          have hmb := place_bd m' q (by omega) hq0 hqf
          rw [takeBy] at hct
          have hfb := facN_bd m'
          obtain ⟨f, hf⟩ : ∃ f, f = facN m' := ⟨_, rfl⟩
          rw [← hf] at hmb hct hfb
          obtain ⟨pl, hpl⟩ : ∃ pl : Nat, q / f = (pl : Int) := ⟨(q / f).toNat, by omega⟩
          obtain ⟨r, hr⟩ : ∃ r, r = q % f := ⟨_, rfl⟩
          rw [hpl, ← hr, Int.toNat_natCast] at hct
          obtain ⟨hp0, hp1, hr0, hr1⟩ := hmb
          rw [← hr] at hr0 hr1
          rw [hpl] at hp1
          have hplm : pl ≤ m' := by omega
          obtain ⟨hf1, hf2⟩ := hfb
          have hm6 : m' ≤ 6 := by omega
          have hquo : wrap64 (q.tdiv f) = (pl : Int) := by
            rw [Int.tdiv_eq_ediv_of_nonneg hq0, hpl]
            exact IntWalk.wrap64_in _ ⟨by omega, by omega⟩
          have hrr := hr.symm
          have HRE := Lib.hid hrr
          have HF := Lib.hid hf
          have HRF : Hid (r < facN m') := by rw [Hid, ← HF.out]; exact hr1
          have HLL := Lib.hid hLl
          have HOL := Lib.hid hOl
          have HCT : Hid ((O ++ [L.getD pl 0]) ++ takeBy m' (L.eraseIdx pl) r = C) := by
            rw [Hid, List.append_assoc]; exact hct
          have HEL : Hid ((L.eraseIdx pl).length = m') := by rw [Hid, List.length_eraseIdx, if_pos (by omega)]; omega
          rcases hL.out.2 with ⟨_, h00⟩ | ⟨gl, cl, cur, rfl, hgB, hh, hnc, hcm, hcs, htk⟩
          · omega
          · have hcx : wr.cell? ⟨gl, pl, none⟩ = some (.int .i64 (L.getD pl 0)) := by
              rw [hL.out.cellAt pl (by omega), ints_get _ _ (by omega)]
            have hgl : gl < wr.heap.size := (hL.out.lt gl rfl).2
            have hsz := hbl.out.size
            have hsnO : Hid (ints O ++ [.int .i64 (L.getD pl 0)] = ints (O ++ [L.getD pl 0])) := by rw [Hid, ints, ints, List.map_append]; rfl
            have hneq := Lib.hid (fun e => hne.out gl rfl (Eq.symm e))
            unfold maxLen at hcm
            clear hall hqf hLl hOl hct hf hr hr1 hgB hh hcs htk
            obtain ⟨x, hx⟩ : ∃ x, x = L.getD pl 0 := ⟨_, rfl⟩
            rw [← hx] at hcx hsnO HCT
            clear hx
            go_wp2_with fail
            refine (facS_nat m' _ _ (by omega) (by omega)).mono ?_
            rintro e w' ⟨rfl, rfl⟩
            rw [← HF.out]
            go_wp2_with (at_builtin; refine wpList_append_own_at _ rfl _ _ 23 rfl w.heap.size 3 i0 (.int .i64 0) 1 8 Try.underlying23 hi hz0 hz1 hz2 rfl (by decide) _ _ _ rfl (hO.out.alloc _) ⟨wr.heap.size, 0, none⟩ 1 1 [.int .i64 x] rfl rfl (one_cell wr _ _) (by simp [Value.oneCell']) (by unfold maxLen; omega) (by omega) (by simp; omega) ?_)
            intro vo1 w1 ho1 hg1 _ hat1
            rw [hsnO.out] at ho1
            have hs1 := hg1.size
            have hL1 := (hL.out.alloc (.cells #[.int .i64 x] 3)).kept hg1 (.inr hneq.out)
            have hb1 := hbl.out.alloc (by omega) (.cells #[.int .i64 x] 3)
            have hb2 := Lib.hid (hb1.grown hg1 (by simp; omega) (fun z hz => (hO.out.lt z hz).1))
            have hn1 : Hid (∀ z, vo1.ownBlock = some z → z ≠ gl ∧ z < w1.heap.size) := fun z hz => by
              refine ⟨?_, (ho1.lt z hz).2⟩
              rcases hat1 with e | e
              · rw [e] at hz
                intro hzz
                subst hzz
                exact hneq.out hz.symm
              · rw [e] at hz
                injection hz with hz
                have hz2 : wr.heap.size + 1 = z := by simpa using hz
                omega
            have hglw : gl < w1.heap.size := by simp at hs1; omega
            have hBw1 : w.heap.size ≤ w1.heap.size := by simp at hs1; omega
            have HO1 := Lib.hid ho1
            have HLC : Hid (∀ W : World, (∀ z, z < w1.heap.size → W.heap[z]? = w1.heap[z]?) → ∀ (o m2 : Nat) (news : List Int), (∀ j, j < news.length → news.getD j 0 = L.getD (o + j) 0) → news.length = m2 → o + m2 ≤ m' + 1 →
                ∀ j u, (ints news)[j]? = some u → W.cell? ((⟨gl, o, none⟩ : Addr).add j) = some u) := fun W hW o m2 news hnew hnl hom j u hu => by
              have hj : j < news.length := by
                have := (List.getElem?_eq_some_iff.1 hu).1
                simpa using this
              rw [Addr.add_lit, World.cell?_of_block (w := w1) (hW gl hglw), hL1.cellAt (o + j) (by omega), ints_get _ _ (by rw [HLL.out]; omega), ← hnew j hj, ← hu, ints_get _ _ hj]
            have HE0 := Lib.hid (show (w1.alloc (.cells #[] 3)).drew.ownsRow w.heap.size 3 1 (.slice (some ⟨w1.heap.size, 0, none⟩) 0 0) 0 [] from own_empty w1 _ hBw1)
            have htake : Hid (∀ j, j < (L.take pl).length → (L.take pl).getD j 0 = L.getD (0 + j) 0) := fun j hj => by
              have hj2 : j < pl := by
                have := List.length_take_le pl L
                omega
              simp [List.getD, hj2]
            have hdrop : Hid (∀ j, j < (L.drop (pl + 1)).length → (L.drop (pl + 1)).getD j 0 = L.getD (pl + 1 + j) 0) := fun j _ => by
              simp [List.getD]
            have htl : Hid ((L.take pl).length = pl) := by rw [Hid, List.length_take, HLL.out]; omega
            have hdl : Hid ((L.drop (pl + 1)).length = m' + 1 - (pl + 1)) := by rw [Hid, List.length_drop, HLL.out]
            have hfin : Hid ([] ++ ints (L.take pl) ++ ints (L.drop (pl + 1)) = ints (L.eraseIdx pl)) := by
              rw [Hid, List.eraseIdx_eq_take_drop_succ]; simp [ints]
            have hw1 : IntKind.i64.wrap ((pl : Int) + 1) = (pl : Int) + 1 := IntWalk.i64_in _ (by omega)
            clear hL1 hb1 hg1 ho1 hat1 hL hO hne hbl hcx
            have hsA := fun W => slice_head W gl (m' + 1) cl pl (by omega)
            obtain ⟨ad, hade⟩ : ∃ ad : Addr, ad = if cl = pl + 1 then ⟨gl, 0, none⟩ else ⟨gl, pl + 1, none⟩ := ⟨_, rfl⟩
            have had : pl + 1 < cl → ad = ⟨gl, pl + 1, none⟩ := fun hlt => by rw [hade, if_neg (by omega)]
            have hsB : ∀ W : World, (Instr.slice 23 (.slice (some ⟨gl, 0, none⟩) (m' + 1) cl) (some (.int .i64 ((pl : Int) + 1))) none none).run Try.prog W = .ok (.slice (some ad) (m' + 1 - (pl + 1)) (cl - (pl + 1))) W := fun W => by
              have hr := slice_tail W gl (m' + 1) cl (pl + 1) (by omega) (by omega)
              rw [show (((pl + 1 : Nat)) : Int) = (pl : Int) + 1 by omega, ← hade] at hr
              exact hr
            clear hade
            have HLD : Hid (∀ W : World, (∀ z, z < w1.heap.size → W.heap[z]? = w1.heap[z]?) → ∀ j u, (ints (L.drop (pl + 1)))[j]? = some u → W.cell? (ad.add j) = some u) := fun W hW j u hu => by
              have hj : j < (L.drop (pl + 1)).length := by
                have := (List.getElem?_eq_some_iff.1 hu).1
                simpa using this
              have hj2 := hdl.out
              rw [had (by omega)]
              exact HLC.out W hW (pl + 1) _ _ hdrop.out hdl.out (by omega) j u hu
            clear had
            go_wp2
            go_region_law (first
              | (refine step_append_at _ rfl (.tmp 43) (.tmp 46) rfl w.heap.size _ 0 [] (by simp [Act.eval]) HE0.out ⟨gl, 0, none⟩ pl cl (L.take pl) (by simp [Act.eval]) htl.out (HLC.out _ (fun z hz => Below.heap_alloc _ _ _ hz) 0 pl _ htake.out htl.out (by omega)) (by omega) (by simp; omega) ?_; intro v1 w2 hv1 hgv1 hatv1; have HV1 := Lib.hid hv1; have hs2 := hgv1.size; have HW2 := Lib.hid (fun z (hz : z < w1.heap.size) => (hgv1.block z (by simp; omega) (by simp [Value.ownBlock]; omega)).trans (Below.heap_alloc w1 _ z hz)); clear hv1)
              | (refine step_append_at _ rfl (.tmp 47) (.tmp 51) rfl w.heap.size v1 (0 + pl) ([] ++ ints (L.take pl)) (by simp [Act.eval]) HV1.out ad (m' + 1 - (pl + 1)) (cl - (pl + 1)) (L.drop (pl + 1)) (by simp [Act.eval]) hdl.out (HLD.out _ HW2.out) (by omega) (by simp at hs2; omega) ?_; intro v2 w3 hv2 hgv2 hatv2))
            have hr1b : ∀ z, v1.ownBlock = some z → w1.heap.size ≤ z := fun z hz => by
              rcases hatv1 with e | e
              · rw [e] at hz
                simp [Value.ownBlock] at hz
                omega
              · rw [e] at hz
                injection hz with hz
                have : w1.heap.size + 1 = z := by simpa using hz
                omega
            have hs2b : w1.heap.size ≤ w2.heap.size := by simp at hs2; omega
            have hr2b : ∀ z, v2.ownBlock = some z → w1.heap.size ≤ z := fun z hz => by
              rcases hatv2 with e | e
              · rw [e] at hz
                exact hr1b z hz
              · rw [e] at hz
                injection hz with hz
                omega
            have HO3 : Hid (w3.ownsRow w.heap.size 3 1 vo1 (n - m') (ints (O ++ [x]))) := by
              have e1 : n - (m' + 1) + 1 = n - m' := by omega
              have h1 := ((HO1.out.alloc (.cells #[] 3)).drew).kept hgv1 (by
                rcases hv : vo1.ownBlock with _ | z
                · exact .inl rfl
                · right
                  intro e
                  simp [Value.ownBlock] at e
                  have := (hn1.out z hv).2
                  omega)
              have h2 := h1.kept hgv2 (by
                rcases hv : vo1.ownBlock with _ | z
                · exact .inl rfl
                · right
                  intro e
                  have := (hn1.out z hv).2
                  have := hr1b z e.symm
                  omega)
              rw [e1] at h2
              exact h2
            have HL3 : Hid (w3.ownsRow w.heap.size 3 1 v2 m' (ints (L.eraseIdx pl))) := by
              have e1 : 0 + pl + (m' + 1 - (pl + 1)) = m' := by omega
              rw [e1, hfin.out] at hv2
              exact hv2
            have HN3 : Hid (∀ z, v2.ownBlock = some z → vo1.ownBlock ≠ some z) := fun z hz e => by
              have := hr2b z hz
              have := (hn1.out z e).2
              omega
            have HB3 : Hid (Below w.heap.size w w3) :=
              (((hb2.out.alloc hBw1 (.cells #[] 3)).drew).grown hgv1 (by simp; omega) (by simp [Value.ownBlock]; omega)).grown hgv2 (by omega) (fun z hz => by have := hr1b z hz; omega)
            have HALL : Hid (r < facN m' ∧ (L.eraseIdx pl).length = m' ∧ (O ++ [x]).length = n - m' ∧ (O ++ [x]) ++ takeBy m' (L.eraseIdx pl) r = C) :=
              ⟨HRF.out, HEL.out, by rw [List.length_append, HOL.out]; simp; omega, HCT.out⟩
            clear hr1b hr2b hv2 hgv1 hgv2 hatv1 hatv2 hsA hsB hquo hrr hw1
            go_wp2
            go_roundw
            case rel => exact ⟨m', L.eraseIdx pl, O ++ [x], r, by omega, by go_num, by first | rfl | rw [HRE.out], hr0, HALL, HL3, HO3, HN3, HB3⟩
            case measure => simp [intOf]
end Go.Proofs.Ytamnacgclhaggaa

namespace Go.Proofs.Ytamnacgclhaggaa
open Go.ChangeShapes Go.WideShapes Go.ChangeAt Go.RowKit

theorem setCells_row (g : Nat) (t : TypeId) : ∀ (vs : List Value) (o : Nat) (w : World) (cur : Array Value), w.heap[g]? = some (.cells cur t (0, 0)) →
    ∃ cur' : Array Value, (w.setCells g o vs).heap[g]? = some (.cells cur' t (0, 0)) ∧ cur'.size = cur.size ∧ (∀ j, j < vs.length → o + j < cur.size → cur'[o + j]? = vs[j]?) ∧ (∀ j, j < o → cur'[j]? = cur[j]?) ∧
      w.grownBy (w.setCells g o vs) (some g)
  | [], o, w, cur, h => ⟨cur, h, rfl, fun j hj => absurd hj (by simp), fun _ _ => rfl, World.grownBy.refl _ _⟩
  | v :: vs, o, w, cur, h => by
    obtain ⟨c1, h1, h2, h3, h4, h5⟩ := setCells_row g t vs (o + 1) (w.setCell ⟨g, o, none⟩ v) (cur.setIfInBounds o v) (heap_setCell_same w g o cur t v h)
    have hg1 : w.grownBy (w.setCell ⟨g, o, none⟩ v) (some g) := ⟨rfl, rfl, rfl, by simp [World.setCell], fun i _ hne => Below.heap_setCell _ _ _ _ (fun e => hne (by simp [e]))⟩
    refine ⟨c1, h1, by rw [h2]; simp, fun j hj hs => ?_, fun j hj => ?_, hg1.trans h5⟩
    · rcases j with _ | j
      · rw [Nat.add_zero, h4 o (by omega)]
        simp at hs ⊢
        simp [hs]
      · have := h3 j (by simpa using hj) (by simp; omega)
        rw [show o + 1 + j = o + (j + 1) by omega] at this
        simpa using this
    · rw [h4 j (by omega), Array.getElem?_setIfInBounds, if_neg (by omega)]

theorem delete_any (g n cap B q : Nat) (L : List Int) (qv jv : Int) (w : World) (h : w.ownsRow B 3 1 (.slice (some ⟨g, 0, none⟩) n cap) n (ints L)) (hl : L.length = n) (hq : q < n) (h1 : qv = q) (h2 : jv = q + 1) :
    Calls Try.prog 126 #[.slice (some ⟨g, 0, none⟩) n cap, .int .i64 qv, .int .i64 jv] w fun e w' => e = .returned (.slice (some ⟨g, 0, none⟩) (n - 1) cap) ∧
      w'.ownsRow B 3 1 (.slice (some ⟨g, 0, none⟩) (n - 1) cap) (n - 1) (ints (L.eraseIdx q)) ∧ w.grownBy w' (some g) := by
  subst h1
  obtain rfl : jv = ((q + 1 : Nat) : Int) := by omega
  rcases h.2 with ⟨e, _⟩ | ⟨g', cap', cur, e, hB, hh, hnc, hcm, hcs, ht⟩
  · simp at e
  · simp only [Value.slice.injEq, Option.some.injEq, Addr.mk.injEq, and_true, true_and] at e
    obtain ⟨rfl, rfl⟩ := e
    unfold maxLen at hcm
    refine (Try.slices_Delete_int_cells g 0 n cap q (q + 1) L w (by omega) hnc (by omega) (by omega) (by omega) (fun j hj => by rw [Nat.zero_add, h.cellAt j (by omega), ints_get _ _ hj]) (fun j _ => frozen_of_row w g _ cur _ hh)).mono ?_
    rintro e w' ⟨rfl, nq, rfl⟩
    rw [show q + 1 - q = 1 by omega]
    refine ⟨rfl, ?_⟩
    have hX : (L.take n).take q ++ (L.take n).drop (q + 1) ++ List.replicate 1 0 = L.eraseIdx q ++ [0] := by
      rw [List.take_of_length_le (by omega : L.length ≤ n), List.eraseIdx_eq_take_drop_succ]
      rfl
    rw [hX]
    have hel : (L.eraseIdx q).length = n - 1 := by rw [List.length_eraseIdx, if_pos (by omega)]; omega
    obtain ⟨c1, g1, g2, g3, _, g5⟩ := setCells_row g 3 ((L.eraseIdx q ++ [0]).map (Value.int .i64)) 0 (w.drewN nq) cur hh
    refine ⟨⟨by rw [ints_length, hel]; omega, .inr ⟨g, cap, c1, rfl, hB, g1, by omega, by unfold maxLen; omega, by rw [g2]; exact hcs, ?_⟩⟩, ?_⟩
    · apply List.ext_getElem?
      intro j
      rw [List.getElem?_take]
      by_cases hj : j < (n - 1) * 1
      · rw [if_pos hj, Array.getElem?_toList]
        have := g3 j (by simp; omega) (by omega)
        rw [Nat.zero_add] at this
        rw [this, List.getElem?_map, List.getElem?_append_left (by omega), ints, List.getElem?_map]
      · rw [if_neg hj, List.getElem?_eq_none (by rw [ints_length]; omega)]
    · exact ⟨g5.os, g5.tape, g5.output, g5.size, g5.block⟩

/-- The array half filled by numbers. -/
theorem pad_out (out : List Int) (i : Nat) (x : Int) (hl : out.length = i) (hi : i < 7) : (padR out).set i x = padR (out ++ [x]) := by
  unfold padR
  rw [List.set_append_right _ _ (by omega), hl, Nat.sub_self]
  obtain ⟨m, hm⟩ : ∃ m, 7 - i = m + 1 := ⟨7 - i - 1, by omega⟩
  rw [hm, List.replicate_succ, List.set_cons_zero, List.append_assoc]
  simp [hl]
  omega

set_option maxHeartbeats 2000000 in
theorem numbered_any (n : Nat) (k0 : Int) (w : World) (h3 : 3 ≤ n) (h7 : n ≤ 7) (h0 : 0 ≤ k0) (hk : k0 < facN n) :
    Calls Try.prog 119 #[.int .i64 (n : Int), .int .i64 k0] w fun e w' => e = .returned (agp (byL n k0)) ∧ Below w.heap.size w w' := by
  obtain ⟨i0, hi, hz0, hz1, hz2⟩ := info_parts int_info
  have hC7 : (padR (byL n k0)).length = 7 := padR_length _ (by rw [byL_length]; exact h7)
  have HC7 := Lib.hid hC7
  have hC0 : ([] : List Int) ++ takeBy (n - 0) (upFrom 0 n) k0 = byL n k0 := rfl
  have HC0 := Lib.hid hC0
  have HK0 := Lib.hid hk
  clear hC7 hC0 hk
  generalize hC : byL n k0 = C at *
  clear hC
  go_enter Try.func119, Try.ntmps119
  go_wp2_with fail
  obtain ⟨W0, hW0⟩ : ∃ W, W = w.alloc (.cells #[.int .i64 0, .int .i64 0, .int .i64 0, .int .i64 0, .int .i64 0, .int .i64 0, .int .i64 0] 53) := ⟨_, rfl⟩
  rw [← hW0]
  have hs0 : W0.heap.size = w.heap.size + 1 := by rw [hW0]; simp
  have hb0 : Below w.heap.size w W0 := by rw [hW0]; exact (Below.refl _ _).alloc (Nat.le_refl _) _
  have ha0 : Arr W0 w.heap.size zero7 := by rw [hW0]; exact new_ring w
  clear hW0
  generalize hB : w.heap.size = B at *
  have HB := Lib.hid hB
  clear hB
  refine (empty_any W0).mono ?_
  rintro e W1 ⟨rfl, hb⟩
  have hb1 : Below B w W1 := hb0.trans (hb.mono (by omega))
  have ha1 := ha0.below hb (by omega)
  have hs1 : B < W1.heap.size := by have := hb.size; omega
  clear hb hb0 ha0 hs0
  have k1 : Arr (W1.alloc (.cells #[.int .i64 (-1), .int .i64 (-1), .int .i64 (-1), .int .i64 (-1), .int .i64 (-1), .int .i64 (-1), .int .i64 (-1)] 53)) W1.heap.size neg7 := heap_alloc_new W1 _
  have k2 : Arr (W1.alloc (.cells #[.int .i64 (-1), .int .i64 (-1), .int .i64 (-1), .int .i64 (-1), .int .i64 (-1), .int .i64 (-1), .int .i64 (-1)] 53)) B zero7 := ha1.alloc _
  have k3 : Below B w (W1.alloc (.cells #[.int .i64 (-1), .int .i64 (-1), .int .i64 (-1), .int .i64 (-1), .int .i64 (-1), .int .i64 (-1), .int .i64 (-1)] 53)) := hb1.alloc (by omega) _
  have K1 := Lib.hid k1
  have K2 := Lib.hid k2
  have K3 := Lib.hid k3
  clear k1 k2 k3 ha1 hb1
  go_wp2_with (at_make; refine wpList_make_full _ rfl _ _ 23 rfl B 3 i0 (.int .i64 0) 1 Try.underlying23 hi hz0 hz1 .i64 .i64 _ _ n rfl rfl rfl rfl (by rw [hz2]; omega) (by unfold maxLen; omega) (by simp; omega) ?_)
  intro W3 hown3 hg3
  have ho3 : W3.ownsRow B 3 1 (.slice (some ⟨W1.heap.size + 1, 0, none⟩) n n) n (ints (half (upFrom 0 n) n 0)) := by
    have e : ints (half (upFrom 0 n) n 0) = (madeCells #[Value.int IntKind.i64 0] n).toList := by
      rw [half_zero, toList_madeCells_one]
      simp [ints]
    rw [e]
    simpa using hown3
  have HG3 : Hid (Arr W3 W1.heap.size neg7) := (hg3.block W1.heap.size (by simp) (by simp)).trans K1.out
  have HR3 : Hid (Arr W3 B zero7) := (hg3.block B (by simp; omega) (by simp)).trans K2.out
  have hb3 : Below B w W3 := K3.out.grown hg3 (by simp; omega) (by simp)
  clear hown3 hg3 K1 K2 K3
  generalize W1.heap.size = G at *
  go_wp2_with fail
  go_loopw [16] (fun i wr => ∃ k : Nat, k ≤ n ∧ i = .int .i64 k ∧ Hid (wr.ownsRow B 3 1 (.slice (some ⟨G + 1, 0, none⟩) n n) n (ints (half (upFrom 0 n) n k))) ∧ Hid (Arr wr G neg7) ∧ Hid (Arr wr B zero7) ∧ Below B w wr) (fun i _ => n - (intOf i).toNat)
  case atStart => exact ⟨0, Nat.zero_le _, rfl, ho3, HG3, HR3, hb3⟩
  case round =>
    obtain ⟨k, hk, rfl, hown, hG, hR, hbl⟩ := hrel
    clear ho3 HG3 HR3 hb3
    by_cases hlt : k < n
    · have hst := hown.out.stored k (.int .i64 (k : Int))
      have hsp := half_step (upFrom 0 n) n k (by simp) hlt
      rw [upFrom_get 0 n k hlt, Int.zero_add] at hsp
      rw [ints_set, hsp] at hst
      have hcell : wr.cell? ⟨G + 1, k, none⟩ = some (.int .i64 ((half (upFrom 0 n) n k).getD k 0)) := by
        rw [hown.out.cellAt k (by omega), ints_get _ _ (by rw [half_length _ n k (by simp) hk]; exact hlt)]
      have hfr : wr.frozen? ⟨G + 1, k, none⟩ = false := hown.out.frozenAt _
      have HS := Lib.hid hst
      clear hst hsp
      generalize (half (upFrom 0 n) n k).getD k 0 = old at hcell
      go_wp2
      go_roundw
      case rel => exact ⟨k + 1, by omega, by go_num, HS.out.1, Lib.hid (hG.out.far (by simp) _), Lib.hid (hR.out.far (by simp; omega) _), hbl.setCell (by simp; omega) _⟩
      case measure => simp [intOf]; omega
    · obtain rfl : k = n := by omega
      have hown2 := hown.out
      rw [half_full _ k (by simp)] at hown2
      have HO2 := Lib.hid hown2
      clear hown hown2
      go_wp2
      obtain ⟨wo, rfl⟩ : ∃ wo : World, wo = wr := ⟨_, rfl⟩
      go_loopw [1, 6, 25] (fun kk v i wr => ∃ (j : Nat) (out left : List Int) (q : Int), j ≤ k ∧ i = .int .i64 j ∧ kk = .int .i64 q ∧ v = .slice (some ⟨G + 1, 0, none⟩) (k - j) k ∧ 0 ≤ q ∧
          Hid (q < facN (k - j) ∧ out.length = j ∧ left.length = k - j ∧ out ++ takeBy (k - j) left q = C) ∧ Hid (wr.ownsRow B 3 1 (.slice (some ⟨G + 1, 0, none⟩) (k - j) k) (k - j) (ints left)) ∧
          Hid (Arr wr G (padR out)) ∧ Hid (Arr wr B zero7) ∧ Below B w wr) (fun _ _ i _ => k - (intOf i).toNat)
      case atStart => exact ⟨0, [], upFrom 0 k, k0, Nat.zero_le _, rfl, rfl, by simp, h0, ⟨by simpa using HK0.out, rfl, by simp, HC0.out⟩, by simpa using HO2, hG, hR, hbl⟩
      case round =>
        obtain ⟨j, out, left, q, hj, rfl, rfl, rfl, hq0, hall, hown, hG2, hR2, hbl2⟩ := hrel
        clear HO2 hG hR hbl HK0 HC0
        by_cases hjk : j < k
        · obtain ⟨m, hm⟩ : ∃ m, k - j = m + 1 := ⟨k - j - 1, by omega⟩
          rw [hm] at hall hown
          obtain ⟨hqf, hol, hll, hct⟩ := hall.out
          have hmb := place_bd m q (by omega) hq0 hqf
          rw [takeBy] at hct
          have hfb := facN_bd m
          obtain ⟨f, hf⟩ : ∃ f, f = facN m := ⟨_, rfl⟩
          rw [← hf] at hmb hct hfb
          obtain ⟨pl, hpl⟩ : ∃ pl : Nat, q / f = (pl : Int) := ⟨(q / f).toNat, by omega⟩
          obtain ⟨r, hr⟩ : ∃ r, r = q % f := ⟨_, rfl⟩
          rw [hpl, ← hr, Int.toNat_natCast] at hct
          obtain ⟨hp0, hp1, hr0, hr1⟩ := hmb
          rw [← hr] at hr0 hr1
          rw [hpl] at hp1
          have hplm : pl ≤ m := by omega
          obtain ⟨hf1, hf2⟩ := hfb
          have hquo : wrap64 (q.tdiv f) = (pl : Int) := by
            rw [Int.tdiv_eq_ediv_of_nonneg hq0, hpl]
            exact IntWalk.wrap64_in _ ⟨by omega, by omega⟩
          have hcx : wr.cell? ⟨G + 1, pl, none⟩ = some (.int .i64 (left.getD pl 0)) := by
            rw [hown.out.cellAt pl (by omega), ints_get _ _ (by omega)]
          have hp7 : (padR out).length = 7 := padR_length _ (by omega)
          have hcg := hG2.out.cell (i := j) (by omega)
          have hfg := hG2.out.frozen j
          have hst := hG2.out.set_ j (left.getD pl 0)
          rw [pad_out out j _ hol (by omega)] at hst
          have HST := Lib.hid hst
          have hgs : wr.grownBy (wr.setCell ⟨G, j, none⟩ (.int .i64 (left.getD pl 0))) (some G) := ⟨rfl, rfl, rfl, by simp [World.setCell], fun i _ hne => Below.heap_setCell _ _ _ _ (fun e => hne (by simp [e]))⟩
          have HOW := Lib.hid (hown.out.kept hgs (by simp [Value.ownBlock]))
          have HRR := Lib.hid (hR2.out.far (p := ⟨G, j, none⟩) (by simp; omega) (.int .i64 (left.getD pl 0)))
          have HBL := Lib.hid (hbl2.setCell (p := ⟨G, j, none⟩) (by simp; omega) (.int .i64 (left.getD pl 0)))
          have HLL := Lib.hid hll
          have HCT : Hid ((out ++ [left.getD pl 0]) ++ takeBy m (left.eraseIdx pl) r = C) := by
            rw [Hid, List.append_assoc]; exact hct
          have HOL : Hid ((out ++ [left.getD pl 0]).length = j + 1) := by rw [Hid, List.length_append, hol]; rfl
          have HEL : Hid ((left.eraseIdx pl).length = m) := by rw [Hid, List.length_eraseIdx, if_pos (by omega)]; omega
          have HF := Lib.hid hf
          have hrr := hr.symm
          have HRE := Lib.hid hrr
          have hm6 : m ≤ 6 := by omega
          have HRF : Hid (r < facN m) := by rw [Hid, ← HF.out]; exact hr1
          have hkj : Hid (k - (j + 1) = m) := by rw [Hid]; omega
          have hm1 : ((k : Int) - 1 - (j : Int)) = (m : Int) := by omega
          have HM1 := Lib.hid hm1
          have hmj : m + 1 + j = k := by omega
          clear hall hown hqf hol hll hct hf hr hst hp7 hgs hG2 hR2 hbl2 hr1 hm1
          generalize (padR out).getD j 0 = old at hcg
          generalize hx : left.getD pl 0 = x at *
          clear hx
          rw [hm]
          have hmj2 := Lib.hid hmj
          have hjm : j ≤ k := by omega
          clear hmj hm
          go_wp2_with fail
          refine (facI_nat m _ _ HM1.out (by have := hmj2.out; omega)).mono ?_
          rintro e w' ⟨rfl, rfl⟩
          rw [← HF.out]
          go_wp2_with fail
          refine (delete_any (G + 1) (m + 1) k B pl left _ _ _ HOW.out HLL.out (by omega) (by first | rfl | omega) (by first | rfl | omega)).mono ?_
          rintro e w5 ⟨rfl, ho5, hg5⟩
          have HO5 := Lib.hid ho5
          have hs5 := hg5.size
          have HG5 := Lib.hid (HST.out.grown hg5 (by omega))
          have HR5 := Lib.hid (HRR.out.grown hg5 (by omega))
          have HB5 := Lib.hid (HBL.out.grown hg5 (by have := HRR.out.lt; omega) (by simp; omega))
          clear ho5 hg5 hquo hrr hcx hcg hfg
          go_wp2
          go_roundw
          case rel =>
            refine ⟨j + 1, out ++ [x], left.eraseIdx pl, r, by have := hmj2.out; omega, by go_num, by first | rfl | rw [HRE.out], by rw [hkj.out], hr0, ?_, ?_, HG5, HR5, HB5⟩
            · rw [hkj.out]
              exact ⟨HRF.out, HOL.out, HEL.out, HCT.out⟩
            · rw [hkj.out]
              exact HO5
          case measure => have := hmj2.out; simp [intOf]; omega
        · obtain rfl : j = k := by omega
          have hCe : Hid (out = C) := by
            have := hall.out.2.2.2
            rw [Nat.sub_self, takeBy, List.append_nil] at this
            exact this
          rw [hCe.out] at hG2
          have hlr := hR2.out.lt
          go_wp2_with (first
            | (refine load_ring rfl _ rfl G (padR C) HC7.out rfl hG2 ?_)
            | (refine store_ring rfl _ _ rfl B zero7 (padR C) rfl HC7.out rfl rfl hR2 ?_; intro w6 HB6 hg6 _))
          try simp only [Exit.inBlock, Exit.then]
          exact ret_ring rfl B (padR C) HC7.out rfl HB6 rfl ⟨rfl, by rw [HB.out]; exact hbl2.grown hg6 (by omega) (by simp)⟩
end Go.Proofs.Ytamnacgclhaggaa

namespace Go.Proofs.Ytamnacgclhaggaa
open Go.ChangeShapes Go.WideShapes Go.ChangeAt Go.RowKit

theorem mem_erase (left : List Int) (p : Nat) (x : Int) (hx : x ∈ left) : x = left.getD p 0 ∨ x ∈ left.eraseIdx p := by
  rcases Nat.lt_or_ge p left.length with hp | hp
  · rw [List.eraseIdx_eq_take_drop_succ, List.mem_append]
    rw [← List.take_append_drop p left, List.mem_append] at hx
    rcases hx with hx | hx
    · exact .inr (.inl hx)
    · rw [List.drop_eq_getElem_cons hp, List.mem_cons] at hx
      rcases hx with hx | hx
      · left; rw [hx]; simp [List.getD, hp]
      · exact .inr (.inr hx)
  · rw [List.eraseIdx_of_length_le hp]; exact .inr hx
theorem takeBy_all : ∀ (m : Nat) (left : List Int) (k : Int), m ≤ 7 → left.length = m → 0 ≤ k → k < facN m → ∀ x ∈ left, x ∈ takeBy m left k
  | 0, left, _, _, hl, _, _, x, hx => by rw [List.eq_nil_of_length_eq_zero hl] at hx; simp at hx
  | m + 1, left, k, hm, hl, h0, hk, x, hx => by
    obtain ⟨h1, h2, h3, h4⟩ := place_bd m k (by omega) h0 hk
    rw [takeBy, List.mem_cons]
    rcases mem_erase left (k / facN m).toNat x hx with h | h
    · exact .inl h
    · right
      exact takeBy_all m _ _ (by omega) (by rw [List.length_eraseIdx_of_lt (by omega)]; omega) h3 h4 x h
theorem byL_has (n : Nat) (k : Int) (h7 : n ≤ 7) (h0 : 0 ≤ k) (hk : k < facN n) (x : Int) (hx0 : 0 ≤ x) (hxn : x < n) : x ∈ byL n k := by
  refine takeBy_all n _ k h7 (by simp) h0 hk x ?_
  simp only [upFrom, List.mem_map, List.mem_range]
  exact ⟨x.toNat, by omega, by omega⟩
theorem facN_le (m : Nat) (h : m ≤ 6) : facN m ≤ facN (m + 1) ∧ 1 ≤ facN m ∧ facN m ≤ 720 := by
  obtain rfl | rfl | rfl | rfl | rfl | rfl | rfl : m = 0 ∨ m = 1 ∨ m = 2 ∨ m = 3 ∨ m = 4 ∨ m = 5 ∨ m = 6 := by omega
  all_goals decide
def facM (n : Nat) : Nat := (facN (n - 1)).toNat
def ringsL (n : Nat) : List (List Int) := (List.range (facM n)).map fun k : Nat => byL n (k : Int)
theorem ringsL_length (n : Nat) : (ringsL n).length = facM n := by simp [ringsL]
theorem facM_eq7 (n : Nat) (h3 : 3 ≤ n) (h6 : n ≤ 7) : (facM n : Int) = facN (n - 1) ∧ facM n ≤ 720 ∧ 1 ≤ facM n ∧ facN (n - 1) ≤ facN n := by
  obtain ⟨h1, h2, h3'⟩ := facN_le (n - 1) (by omega)
  rw [show n - 1 + 1 = n by omega] at h1
  unfold facM
  exact ⟨by omega, by omega, by omega, h1⟩
theorem facM_eq (n : Nat) (h3 : 3 ≤ n) (h6 : n ≤ 6) : (facM n : Int) = facN (n - 1) ∧ facM n ≤ 720 ∧ 1 ≤ facM n ∧ facN (n - 1) ≤ facN n := facM_eq7 n h3 (by omega)
/-- What is known of each ring of n points. -/
def IsR (n : Nat) (l : List Int) : Prop := l.length = n ∧ (∀ x ∈ l, 0 ≤ x) ∧ ∀ x : Int, 0 ≤ x → x < n → x ∈ l
theorem byL_is7 (n k : Nat) (h3 : 3 ≤ n) (h6 : n ≤ 7) (hk : k < facM n) : IsR n (byL n k) := by
  obtain ⟨h1, _, _, h4⟩ := facM_eq7 n h3 h6
  exact ⟨byL_length n k, byL_pos n k (by omega) (by omega) (by omega), fun x hx0 hxn => byL_has n k (by omega) (by omega) (by omega) x hx0 hxn⟩
theorem byL_is (n k : Nat) (h3 : 3 ≤ n) (h6 : n ≤ 6) (hk : k < facM n) : IsR n (byL n k) := byL_is7 n k h3 (by omega) hk
theorem ringsL_is (n : Nat) (h3 : 3 ≤ n) (h6 : n ≤ 6) : ∀ l ∈ ringsL n, IsR n l := fun l hl => by
  simp only [ringsL, List.mem_map, List.mem_range] at hl
  obtain ⟨k, hk, rfl⟩ := hl
  exact byL_is n k h3 h6 hk
theorem enters_fn {f : FuncId} {fn : Func} (hf : Try.prog.funcs[f]? = some fn) (hn : (fn.name == "runtime.NumGoroutine") = false) (hb : fn.body.isNone = false) (args : Array Value) (w : World) : (callFunc f args).run Try.prog w = .ok (.enter f args) w := by
  have h1 : ¬ fn.name = "runtime.NumGoroutine" := by simpa using hn
  have h2 : ¬ fn.body = none := by
    intro e
    rw [e] at hb
    cases hb
  simp [callFunc, go_sem, hf, h1, h2]

def padM (M : List (List Int)) : List (List Int) := M.map padR
def unpad (P : List Int) : List Int := P.filter fun x => decide (0 ≤ x)
theorem unpad_pad (l : List Int) (h : ∀ x ∈ l, 0 ≤ x) : unpad (padR l) = l := by
  unfold unpad padR
  rw [List.filter_append, List.filter_eq_self.2 (fun x hx => by simpa using h x hx)]
  have e : (List.replicate (7 - l.length) (-1 : Int)).filter (fun x => decide (0 ≤ x)) = [] := by
    rw [List.filter_eq_nil_iff]
    intro x hx
    rw [(List.mem_replicate.1 hx).2]; decide
  rw [e, List.append_nil]
theorem filter_pad (M : List (List Int)) (q : List Int → Bool) (h : ∀ l ∈ M, ∀ x ∈ l, 0 ≤ x) : (padM M).filter (fun P => q (unpad P)) = padM (M.filter q) := by
  induction M with
  | nil => rfl
  | cons l M ih =>
    have e := unpad_pad l (h l (by simp))
    have ih' := ih (fun r hr => h r (by simp [hr]))
    simp only [padM, List.map_cons, List.filter_cons, e] at ih' ⊢
    rw [ih']
    cases q l <;> simp
theorem made_ring (n : Nat) : (madeCells #[Value.int .i64 0, Value.int .i64 0, Value.int .i64 0, Value.int .i64 0, Value.int .i64 0, Value.int .i64 0, Value.int .i64 0] (n * 7)).toList = ints (List.replicate n zero7).flatten := by
  rw [made_cells _ (.int .i64 0) (by decide) (fun i hi => by
    simp only [List.size_toArray, List.length_cons, List.length_nil] at hi
    obtain rfl | rfl | rfl | rfl | rfl | rfl | rfl : i = 0 ∨ i = 1 ∨ i = 2 ∨ i = 3 ∨ i = 4 ∨ i = 5 ∨ i = 6 := by omega
    all_goals rfl)]
  rw [show zero7 = List.replicate 7 0 from rfl, List.flatten_replicate_replicate, ints, List.map_replicate]

def mixR (M : List (List Int)) (m k : Nat) : List (List Int) := M.take k ++ List.replicate (m - k) zero7
theorem mixR_length (L : List (List Int)) (m k : Nat) (hL : L.length = m) (hk : k ≤ m) : (mixR L m k).length = m := by simp [mixR]; omega
theorem mixR_step (L : List (List Int)) (m k : Nat) (hL : L.length = m) (hk : k < m) : (mixR L m k).set k (rowK L k) = mixR L m (k + 1) := by
  unfold mixR
  have hl : (L.take k).length = k := by simp; omega
  rw [List.set_append_right _ _ (by omega), hl, Nat.sub_self]
  obtain ⟨d, hd⟩ : ∃ d, m - k = d + 1 := ⟨m - k - 1, by omega⟩
  rw [hd, show m - (k + 1) = d by omega, List.replicate_succ, List.set_cons_zero, List.take_succ_eq_append_getElem (by omega), List.append_assoc]
  simp [rowK, List.getD, show k < L.length by omega]
theorem mixR_full (L : List (List Int)) (m : Nat) (hL : L.length = m) : mixR L m m = L := by simp [mixR, ← hL]

set_option maxRecDepth 10000 in
set_option maxHeartbeats 1000000 in
theorem allRings7_any (n : Nat) (w : World) (h3 : 3 ≤ n) (h6 : n ≤ 7) :
    Calls Try.prog 83 #[.int .i64 (n : Int)] w fun e w' => ∃ v, e = .returned v ∧ RowN w' w.heap.size 53 7 v (padM (ringsL n)) ∧ Below w.heap.size w w' := by
  obtain ⟨i0, hi, hz0, hz1, hz2⟩ := info_parts ring_info
  obtain ⟨hf1, hf2, hf3, hf4⟩ := facM_eq7 n h3 h6
  have HFM := Lib.hid hf1
  obtain ⟨N, hN⟩ : ∃ N, N = facM n := ⟨_, rfl⟩
  rw [← hN] at HFM hf2
  have HN := Lib.hid hN
  have hPL : (padM (ringsL n)).length = N := by simp [padM, ringsL_length, hN]
  have HPL := Lib.hid hPL
  have HFACT := Lib.hid (fun W => facI_nat (n - 1) ((n : Int) - 1) W (by omega) (by omega))
  rw [← HFM.out] at HFACT
  have HNB := Lib.hid (fun (k : Nat) (hk : k < N) W => numbered_any n (k : Int) W h3 (by omega) (by omega) (by have := HFM.out; omega))
  have HROW : Hid (∀ k, k < N → rowK (padM (ringsL n)) k = padR (byL n (k : Int))) := fun k hk => by
    simp [padM, ringsL, rowK, List.getD, show k < facM n by omega]
  have H7 := Lib.hid (fun (k : Nat) => padR_length (byL n (k : Int)) (by rw [byL_length]; omega))
  clear hf1 hf3 hf4 hN hPL
  go_enter Try.func83, Try.ntmps83
  go_wp2_with (first
    | (go_at_call 118; refine (HFACT.out _).mono ?_; rintro e w' ⟨rfl, rfl⟩)
    | (at_make; refine wpList_make_full _ rfl _ _ 59 rfl w.heap.size 53 i0 (.agg #[.int .i64 0, .int .i64 0, .int .i64 0, .int .i64 0, .int .i64 0, .int .i64 0, .int .i64 0]) 7 Try.underlying59 hi hz0 hz1 .i64 .i64 _ _ N rfl rfl rfl rfl (by rw [hz2]; omega) (by unfold maxLen; omega) (Nat.le_refl _) ?_))
  intro w1 hown hgrow
  have hb1 : Below w.heap.size w w1 := (Below.refl _ _).grown hgrow (Nat.le_refl _) (by simp)
  obtain ⟨M, hM⟩ : ∃ M, M = padM (ringsL n) := ⟨_, rfl⟩
  rw [← hM] at HPL HROW
  have HM := Lib.hid hM
  clear hM
  have hf1 : Hid (RowN w1 w.heap.size 53 7 (.slice (some ⟨w.heap.size, 0, none⟩) N N) (mixR M N 0)) := by
    rw [made_ring] at hown
    refine ⟨?_, ?_⟩
    · intro l hl
      simp [mixR] at hl
      rw [hl.2]; rfl
    · rw [mixR_length M N 0 HPL.out (by omega)]
      simpa [mixR] using hown
  clear hown hgrow
  generalize hB : w.heap.size = B at *
  have HB := Lib.hid hB
  clear hB
  have hBs : B ≤ w1.heap.size := by rw [← HB.out]; exact hb1.size
  go_wp2
  go_loopw [11] (fun i wr => ∃ k : Nat, k ≤ N ∧ i = .int .i64 k ∧ Hid (RowN wr B 53 7 (.slice (some ⟨B, 0, none⟩) N N) (mixR M N k)) ∧ Below B w wr) (fun i _ => N - (intOf i).toNat)
  case atStart => exact ⟨0, Nat.zero_le _, rfl, hf1, hb1⟩
  case round =>
    obtain ⟨k, hk, rfl, hf, hbl⟩ := hrel
    clear hf1 hb1
    have HBL := Lib.hid hbl
    have hBw : B ≤ wr.heap.size := by rw [← HB.out]; exact hbl.size
    clear hbl
    by_cases hlt : k < N
    · have HC := Lib.hid (HNB.out k hlt)
      have HST := Lib.hid (mixR_step M N k HPL.out hlt)
      rw [HROW.out k hlt] at HST
      have HLN := Lib.hid (mixR_length M N k HPL.out hk)
      have H77 := Lib.hid (H7.out k)
      go_wp2_with (first
        | (go_at_call 119; refine (HC.out _).mono ?_; rintro e w2 ⟨rfl, hb2⟩; have HF2 := Lib.hid (hf.out.below hb2 (fun i hi => (hf.out.lt i hi).2)))
        | (refine store_elem rfl _ _ 53 rfl B N N B k 7 (mixR M N k) (padR (byL n (k : Int))) HF2 (by rw [HLN.out]; exact hlt) H77.out ring_size rfl rfl ?_; intro w8 HR8 hg8))
      rw [HST.out] at HR8
      go_wp2
      go_roundw
      case rel => exact ⟨k + 1, by omega, by go_num, HR8, (HBL.out.trans (hb2.mono hBw)).grown hg8 (by have := hb2.size; omega) (by simp)⟩
      case measure => simp [intOf]; omega
    · obtain rfl : k = N := by omega
      rw [mixR_full M k HPL.out] at hf
      go_wp2
      go_ret
      refine ⟨.slice (some ⟨B, 0, none⟩) k k, rfl, ?_, by rw [HB.out]; exact HBL.out⟩
      rw [HB.out, ← HM.out]; exact hf.out
theorem allRings_any (n : Nat) (w : World) (h3 : 3 ≤ n) (h6 : n ≤ 6) :
    Calls Try.prog 83 #[.int .i64 (n : Int)] w fun e w' => ∃ v, e = .returned v ∧ RowN w' w.heap.size 53 7 v (padM (ringsL n)) ∧ Below w.heap.size w w' := allRings7_any n w h3 (by omega)

theorem IsR.tell {n : Nat} {l : List Int} (h : IsR n l) (h3 : 3 ≤ n) (h7 : n ≤ 7) : Tell l := by
  have := nodup_of_all n l h.1 (fun j hj => h.2.2 j (by omega) (by omega))
  exact ⟨by rw [h.1]; exact h3, by rw [h.1]; exact h7, fun x hx => by rw [h.1]; exact this.2 x hx, this.1⟩
end Go.Proofs.Ytamnacgclhaggaa
