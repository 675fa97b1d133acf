/- All rings in order: the maths; the program's row. -/
import Derived.Test.YtphffefkjbgibabDoorByI
import Derived.Test.YtphffefkjbgibabDoorPR
import Derived.Test.YtphffefkjbgibabDoorPE
import Derived.Deep.RegionHeld3
namespace Go.Proofs.YtphffefkjbgibabDoor
open Go.ChangeShapes Go.WideShapes Go.ChangeAt Go.RowKit

theorem mem_erase (left : List Int) (p : Nat) (x : Int) (hx : x ∈ left) : x = left.getD p 0 ∨ x ∈ left.eraseIdx p := by
  rcases Nat.lt_or_ge p left.length with hp | hp
  · rw [List.eraseIdx_eq_take_drop_succ, List.mem_append]
    rw [← List.take_append_drop p left, List.mem_append] at hx
    rcases hx with hx | hx
    · exact .inr (.inl hx)
    · rw [List.drop_eq_getElem_cons hp, List.mem_cons] at hx
      rcases hx with hx | hx
      · left; rw [hx]; simp [List.getD, hp]
      · exact .inr (.inr hx)
  · rw [List.eraseIdx_of_length_le hp]; exact .inr hx
theorem takeBy_all : ∀ (m : Nat) (left : List Int) (k : Int), m ≤ 7 → left.length = m → 0 ≤ k → k < facN m → ∀ x ∈ left, x ∈ takeBy m left k
  | 0, left, _, _, hl, _, _, x, hx => by rw [List.eq_nil_of_length_eq_zero hl] at hx; simp at hx
  | m + 1, left, k, hm, hl, h0, hk, x, hx => by
    obtain ⟨h1, h2, h3, h4⟩ := place_bd m k (by omega) h0 hk
    rw [takeBy, List.mem_cons]
    rcases mem_erase left (k / facN m).toNat x hx with h | h
    · exact .inl h
    · right
      exact takeBy_all m _ _ (by omega) (by rw [List.length_eraseIdx_of_lt (by omega)]; omega) h3 h4 x h
theorem byL_has (n : Nat) (k : Int) (h7 : n ≤ 7) (h0 : 0 ≤ k) (hk : k < facN n) (x : Int) (hx0 : 0 ≤ x) (hxn : x < n) : x ∈ byL n k := by
  refine takeBy_all n _ k h7 (by simp) h0 hk x ?_
  simp only [upFrom, List.mem_map, List.mem_range]
  exact ⟨x.toNat, by omega, by omega⟩
theorem facN_le (m : Nat) (h : m ≤ 6) : facN m ≤ facN (m + 1) ∧ 1 ≤ facN m ∧ facN m ≤ 720 := by
  obtain rfl | rfl | rfl | rfl | rfl | rfl | rfl : m = 0 ∨ m = 1 ∨ m = 2 ∨ m = 3 ∨ m = 4 ∨ m = 5 ∨ m = 6 := by omega
  all_goals decide
def facM (n : Nat) : Nat := (facN (n - 1)).toNat
def ringsL (n : Nat) : List (List Int) := (List.range (facM n)).map fun k : Nat => byL n (k : Int)
theorem ringsL_length (n : Nat) : (ringsL n).length = facM n := by simp [ringsL]
theorem facM_eq7 (n : Nat) (h3 : 3 ≤ n) (h6 : n ≤ 7) : (facM n : Int) = facN (n - 1) ∧ facM n ≤ 720 ∧ 1 ≤ facM n ∧ facN (n - 1) ≤ facN n := by
  obtain ⟨h1, h2, h3'⟩ := facN_le (n - 1) (by omega)
  rw [show n - 1 + 1 = n by omega] at h1
  unfold facM
  exact ⟨by omega, by omega, by omega, h1⟩
theorem facM_eq (n : Nat) (h3 : 3 ≤ n) (h6 : n ≤ 6) : (facM n : Int) = facN (n - 1) ∧ facM n ≤ 720 ∧ 1 ≤ facM n ∧ facN (n - 1) ≤ facN n := facM_eq7 n h3 (by omega)
/-- What is known of each ring of n points. -/
def IsR (n : Nat) (l : List Int) : Prop := l.length = n ∧ (∀ x ∈ l, 0 ≤ x) ∧ ∀ x : Int, 0 ≤ x → x < n → x ∈ l
theorem byL_is7 (n k : Nat) (h3 : 3 ≤ n) (h6 : n ≤ 7) (hk : k < facM n) : IsR n (byL n k) := by
  obtain ⟨h1, _, _, h4⟩ := facM_eq7 n h3 h6
  exact ⟨byL_length n k, byL_pos n k (by omega) (by omega) (by omega), fun x hx0 hxn => byL_has n k (by omega) (by omega) (by omega) x hx0 hxn⟩
theorem byL_is (n k : Nat) (h3 : 3 ≤ n) (h6 : n ≤ 6) (hk : k < facM n) : IsR n (byL n k) := byL_is7 n k h3 (by omega) hk
theorem ringsL_is (n : Nat) (h3 : 3 ≤ n) (h6 : n ≤ 6) : ∀ l ∈ ringsL n, IsR n l := fun l hl => by
  simp only [ringsL, List.mem_map, List.mem_range] at hl
  obtain ⟨k, hk, rfl⟩ := hl
  exact byL_is n k h3 h6 hk
theorem enters_fn {f : FuncId} {fn : Func} (hf : Tryd.prog.funcs[f]? = some fn) (hn : (fn.name == "runtime.NumGoroutine") = false) (hb : fn.body.isNone = false) (args : Array Value) (w : World) : (callFunc f args).run Tryd.prog w = .ok (.enter f args) w := by
  have h1 : ¬ fn.name = "runtime.NumGoroutine" := by simpa using hn
  have h2 : ¬ fn.body = none := by
    intro e
    rw [e] at hb
    cases hb
  simp [callFunc, go_sem, hf, h1, h2]

def padM (M : List (List Int)) : List (List Int) := M.map padR
def unpad (P : List Int) : List Int := P.filter fun x => decide (0 ≤ x)
theorem unpad_pad (l : List Int) (h : ∀ x ∈ l, 0 ≤ x) : unpad (padR l) = l := by
  unfold unpad padR
  rw [List.filter_append, List.filter_eq_self.2 (fun x hx => by simpa using h x hx)]
  have e : (List.replicate (7 - l.length) (-1 : Int)).filter (fun x => decide (0 ≤ x)) = [] := by
    rw [List.filter_eq_nil_iff]
    intro x hx
    rw [(List.mem_replicate.1 hx).2]; decide
  rw [e, List.append_nil]
theorem filter_pad (M : List (List Int)) (q : List Int → Bool) (h : ∀ l ∈ M, ∀ x ∈ l, 0 ≤ x) : (padM M).filter (fun P => q (unpad P)) = padM (M.filter q) := by
  induction M with
  | nil => rfl
  | cons l M ih =>
    have e := unpad_pad l (h l (by simp))
    have ih' := ih (fun r hr => h r (by simp [hr]))
    simp only [padM, List.map_cons, List.filter_cons, e] at ih' ⊢
    rw [ih']
    cases q l <;> simp
theorem made_ring (n : Nat) : (madeCells #[Value.int .i64 0, Value.int .i64 0, Value.int .i64 0, Value.int .i64 0, Value.int .i64 0, Value.int .i64 0, Value.int .i64 0] (n * 7)).toList = ints (List.replicate n zero7).flatten := by
  rw [made_cells _ (.int .i64 0) (by decide) (fun i hi => by
    simp only [List.size_toArray, List.length_cons, List.length_nil] at hi
    obtain rfl | rfl | rfl | rfl | rfl | rfl | rfl : i = 0 ∨ i = 1 ∨ i = 2 ∨ i = 3 ∨ i = 4 ∨ i = 5 ∨ i = 6 := by omega
    all_goals rfl)]
  rw [show zero7 = List.replicate 7 0 from rfl, List.flatten_replicate_replicate, ints, List.map_replicate]

def mixR (M : List (List Int)) (m k : Nat) : List (List Int) := M.take k ++ List.replicate (m - k) zero7
theorem mixR_length (L : List (List Int)) (m k : Nat) (hL : L.length = m) (hk : k ≤ m) : (mixR L m k).length = m := by simp [mixR]; omega
theorem mixR_step (L : List (List Int)) (m k : Nat) (hL : L.length = m) (hk : k < m) : (mixR L m k).set k (rowK L k) = mixR L m (k + 1) := by
  unfold mixR
  have hl : (L.take k).length = k := by simp; omega
  rw [List.set_append_right _ _ (by omega), hl, Nat.sub_self]
  obtain ⟨d, hd⟩ : ∃ d, m - k = d + 1 := ⟨m - k - 1, by omega⟩
  rw [hd, show m - (k + 1) = d by omega, List.replicate_succ, List.set_cons_zero, List.take_succ_eq_append_getElem (by omega), List.append_assoc]
  simp [rowK, List.getD, show k < L.length by omega]
theorem mixR_full (L : List (List Int)) (m : Nat) (hL : L.length = m) : mixR L m m = L := by simp [mixR, ← hL]

theorem IsR.tell {n : Nat} {l : List Int} (h : IsR n l) (h3 : 3 ≤ n) (h7 : n ≤ 7) : Tell l := by
  have := nodup_of_all n l h.1 (fun j hj => h.2.2 j (by omega) (by omega))
  exact ⟨by rw [h.1]; exact h3, by rw [h.1]; exact h7, fun x hx => by rw [h.1]; exact this.2 x hx, this.1⟩
end Go.Proofs.YtphffefkjbgibabDoor
