/- The maths of numbers of rings: points taken by a number, and the number told again; greater numbers come later. -/
import Derived.Test.YtgojojoanhilnabDoorRingM
import Derived.Test.YtgojojoanhilnabDoorByM
import Derived.Test.YtgojojoanhilnabDoorNumT
namespace Go.Proofs.YtgojojoanhilnabDoor
open Go.ChangeShapes Go.WideShapes Go.ChangeAt Go.RowKit

/-- How many of a list are less than x. -/
def lessN (t : List Int) (x : Int) : Nat := t.countP fun y => decide (y < x)
/-- The number that a list tells among all orders of its points. -/
def rk : List Int → Int
  | [] => 0
  | x :: t => (lessN t x : Int) * facN t.length + rk t
theorem lessN_perm {s t : List Int} (h : List.Perm s t) (x : Int) : lessN s x = lessN t x := h.countP_eq _
theorem lessN_place : ∀ (l : List Int) (p : Nat), l.Pairwise (· < ·) → p < l.length → lessN l (l.getD p 0) = p
  | [], p, _, h => absurd h (by simp)
  | y :: l, 0, hs, _ => by
    have h := (List.pairwise_cons.1 hs).1
    simp only [lessN, List.getD_cons_zero]
    rw [List.countP_eq_zero]
    intro z hz
    rcases List.mem_cons.1 hz with rfl | hz
    · simp
    · have := h z hz; simp; omega
  | y :: l, p + 1, hs, hp => by
    have h := List.pairwise_cons.1 hs
    have hp' : p < l.length := by simpa using hp
    have ih := lessN_place l p h.2 hp'
    have hy : y < l.getD p 0 := h.1 _ (getD_mem l p hp')
    simp only [lessN, List.getD_cons_succ] at ih ⊢
    rw [List.countP_cons_of_pos (by simpa using hy), ih]
theorem erase_sorted {l : List Int} {p : Nat} (h : l.Pairwise (· < ·)) : (l.eraseIdx p).Pairwise (· < ·) := h.sublist (List.eraseIdx_sublist l p)
theorem erase_perm : ∀ (l : List Int) (p : Nat), p < l.length → List.Perm (l.getD p 0 :: l.eraseIdx p) l
  | [], p, h => absurd h (by simp)
  | y :: l, 0, _ => by simp
  | y :: l, p + 1, h => by
    have ih := erase_perm l p (by simpa using h)
    simp only [List.getD_cons_succ, List.eraseIdx_cons_succ]
    exact (List.Perm.swap y _ _).trans (List.Perm.cons y ih)
theorem erase_len (l : List Int) (p m : Nat) (hl : l.length = m + 1) (hp : p ≤ m) : (l.eraseIdx p).length = m := by
  rw [List.length_eraseIdx, if_pos (by omega)]; omega
theorem takeBy_perm : ∀ (m : Nat) (left : List Int) (k : Int), m ≤ 7 → left.length = m → 0 ≤ k → k < facN m → List.Perm (takeBy m left k) left
  | 0, left, _, _, hl, _, _ => by rw [List.length_eq_zero_iff.1 hl]; exact List.Perm.refl _
  | m + 1, left, k, hm, hl, h0, hk => by
    obtain ⟨h1, h2, h3, h4⟩ := place_bd m k (by omega) h0 hk
    have ih := takeBy_perm m (left.eraseIdx (k / facN m).toNat) (k % facN m) (by omega) (erase_len left _ m hl (by omega)) h3 h4
    exact (List.Perm.cons _ ih).trans (erase_perm left _ (by omega))
theorem rk_by : ∀ (m : Nat) (left : List Int) (k : Int), m ≤ 7 → left.length = m → left.Pairwise (· < ·) → 0 ≤ k → k < facN m → rk (takeBy m left k) = k
  | 0, left, k, _, _, _, h0, hk => by simp [facN] at hk; simp [takeBy, rk]; omega
  | m + 1, left, k, hm, hl, hs, h0, hk => by
    obtain ⟨h1, h2, h3, h4⟩ := place_bd m k (by omega) h0 hk
    have hp : (k / facN m).toNat < left.length := by omega
    have hlen := erase_len left (k / facN m).toNat m hl (by omega)
    have ih := rk_by m (left.eraseIdx (k / facN m).toNat) (k % facN m) (by omega) hlen (erase_sorted hs) h3 h4
    have hpm := takeBy_perm m (left.eraseIdx (k / facN m).toNat) (k % facN m) (by omega) hlen h3 h4
    have e1 := lessN_perm hpm (left.getD (k / facN m).toNat 0)
    have e2 := lessN_perm (erase_perm left (k / facN m).toNat hp) (left.getD (k / facN m).toNat 0)
    have e3 := lessN_place left (k / facN m).toNat hs hp
    have e4 : lessN (left.getD (k / facN m).toNat 0 :: left.eraseIdx (k / facN m).toNat) (left.getD (k / facN m).toNat 0) = lessN (left.eraseIdx (k / facN m).toNat) (left.getD (k / facN m).toNat 0) := by
      simp [lessN]
    rw [takeBy, rk, ih, takeBy_length, e1, ← e4, e2, e3, Int.toNat_of_nonneg h1]
    have := Int.mul_ediv_add_emod k (facN m)
    rw [Int.mul_comm] at this
    exact this
theorem lessN_le (t : List Int) (x : Int) : lessN t x ≤ t.length := List.countP_le_length
theorem rk_bd : ∀ t : List Int, t.length ≤ 7 → 0 ≤ rk t ∧ rk t < facN t.length
  | [], _ => by simp [rk, facN]
  | x :: t, h => by
    have h' : t.length ≤ 6 := by simp at h; omega
    have ih := rk_bd t (by omega)
    have hf := facN_bd t.length
    have hl := lessN_le t x
    rw [rk, List.length_cons, facN_succ _ h']
    have h1 : 0 ≤ (lessN t x : Int) * facN t.length := Int.mul_nonneg (by omega) (by omega)
    have h2 : (lessN t x : Int) * facN t.length ≤ (t.length : Int) * facN t.length := Int.mul_le_mul_of_nonneg_right (by omega) (by omega)
    have h3 : ((t.length + 1 : Nat) : Int) * facN t.length = (t.length : Int) * facN t.length + facN t.length := by push_cast; rw [Int.add_mul]; omega
    omega
theorem place_at : ∀ (l : List Int) (x : Int), l.Pairwise (· < ·) → x ∈ l → lessN l x < l.length ∧ l.getD (lessN l x) 0 = x := fun l x hs hx => by
  have hi := List.idxOf_lt_length_of_mem hx
  have e := at_idx l x hx
  have h := lessN_place l _ hs hi
  rw [e] at h
  rw [h]
  exact ⟨hi, e⟩
theorem by_rk : ∀ (m : Nat) (left t : List Int), m ≤ 7 → left.length = m → left.Pairwise (· < ·) → List.Perm t left → takeBy m left (rk t) = t
  | 0, left, t, _, hl, _, hp => by
    have : t.length = 0 := by rw [hp.length_eq, hl]
    rw [List.length_eq_zero_iff.1 this]
    rfl
  | m + 1, left, [], _, hl, _, hp => by have := hp.length_eq; simp [hl] at this
  | m + 1, left, x :: t, hm, hl, hs, hp => by
    have htl : t.length = m := by have := hp.length_eq; simp [hl] at this; omega
    have hb := rk_bd t (by omega)
    rw [htl] at hb
    have hx : x ∈ left := hp.mem_iff.1 (List.mem_cons_self ..)
    have e1 : lessN left x = lessN t x := by rw [← lessN_perm hp x]; simp [lessN]
    have hpl := place_at left x hs hx
    rw [e1] at hpl
    have hq : rk (x :: t) / facN m = (lessN t x : Int) := by
      rw [rk, htl, Int.add_comm, Int.add_mul_ediv_right _ _ (by have := (facN_bd m).1; omega), Int.ediv_eq_zero_of_lt hb.1 hb.2, Int.zero_add]
    have hr : rk (x :: t) % facN m = rk t := by
      rw [rk, htl, Int.add_comm, Int.add_mul_emod_self_right, Int.emod_eq_of_lt hb.1 hb.2]
    have hpm : List.Perm t (left.eraseIdx (lessN t x)) := by
      have := (hp.trans (erase_perm left (lessN t x) hpl.1).symm)
      rw [hpl.2] at this
      exact List.Perm.cons_inv this
    rw [takeBy, hq, hr, Int.toNat_natCast, hpl.2, by_rk m _ t (by omega) (erase_len left _ m hl (by omega)) (erase_sorted hs) hpm]
theorem upFrom_sorted (a : Int) (n : Nat) : (upFrom a n).Pairwise (· < ·) := by
  unfold upFrom
  rw [List.pairwise_map]
  exact List.Pairwise.imp (fun h => by omega) List.pairwise_lt_range

/-- The same number by counting place by place. -/
theorem cnt_drop (l : List Int) (i : Nat) : ∀ k, i + 1 ≤ k → k ≤ l.length → cnt l i k = lessN ((l.take k).drop (i + 1)) (l.getD i 0)
  | 0, h, _ => absurd h (by omega)
  | k + 1, h, hk => by
    by_cases e : i = k
    · subst e
      rw [cnt_start l i (i + 1) (Nat.le_refl _), List.drop_of_length_le (by rw [List.length_take]; omega)]
      rfl
    · rw [cnt, cnt_drop l i k (by omega) (by omega)]
      have e1 : l.take (k + 1) = l.take k ++ [l.getD k 0] := by
        rw [List.take_add_one]
        congr 1
        simp [List.getD, show k < l.length by omega]
      rw [e1, List.drop_append_of_le_length (by rw [List.length_take]; omega)]
      unfold lessN
      rw [List.countP_append]
      congr 1
      by_cases hlt : l.getD k 0 < l.getD i 0
      · rw [if_pos ⟨by omega, hlt⟩, List.countP_cons_of_pos (by simpa using hlt)]; rfl
      · rw [if_neg (fun h => hlt h.2), List.countP_cons_of_neg (by simpa using hlt)]; rfl
theorem numP_rk (l : List Int) : ∀ m, m ≤ l.length → numP l m + rk (l.drop m) = rk l
  | 0, _ => by simp [numP]
  | m + 1, h => by
    have ih := numP_rk l m (by omega)
    have e : l.drop m = l.getD m 0 :: l.drop (m + 1) := by
      rw [List.drop_eq_getElem_cons (by omega)]
      simp [List.getD, show m < l.length by omega]
    rw [e, rk, List.length_drop] at ih
    rw [numP, cnt_drop l m l.length (by omega) (Nat.le_refl _), List.take_length, show l.length - 1 - m = l.length - (m + 1) by omega]
    omega
theorem numP_full (l : List Int) : numP l l.length = rk l := by
  have := numP_rk l l.length (Nat.le_refl _)
  rw [List.drop_length] at this
  simpa [rk] using this
theorem tell_perm {l : List Int} (h : Tell l) : List.Perm l (upFrom 0 l.length) := by
  have hu : (upFrom 0 l.length).Nodup := (upFrom_sorted 0 l.length).imp (fun h e => by omega)
  refine (List.perm_ext_iff_of_nodup h.2.2.2 hu).2 fun x => ⟨fun hx => ?_, fun hx => ?_⟩
  · have := h.2.2.1 x hx
    exact List.mem_map.2 ⟨x.toNat, List.mem_range.2 (by omega), by omega⟩
  · obtain ⟨i, hi, rfl⟩ := List.mem_map.1 hx
    have := List.mem_range.1 hi
    exact h.has (by omega) (by omega)
theorem ring_num {l : List Int} (h : Ring l) : 0 ≤ numP l l.length ∧ numP l l.length < facN (l.length - 1) ∧ byL l.length (numP l l.length) = l := by
  obtain ⟨x, t, e⟩ : ∃ x t, l = x :: t := by
    cases l with
    | nil => exact absurd h.1.1 (by simp)
    | cons x t => exact ⟨x, t, rfl⟩
  have h7 := h.1.2.1
  have hx : x = 0 := by have := h.2; rw [e] at this; simpa using this
  have hz : lessN t x = 0 := by
    unfold lessN
    rw [List.countP_eq_zero]
    intro y hy
    have := h.1.2.2.1 y (by rw [e]; exact List.mem_cons_of_mem _ hy)
    simp; omega
  have hb := rk_bd t (by rw [e] at h7; simp at h7; omega)
  rw [numP_full]
  refine ⟨?_, ?_, by_rk _ _ l h7 (by simp) (upFrom_sorted 0 _) (tell_perm h.1)⟩
  · rw [e, rk, hz]; omega
  · rw [e, rk, hz, List.length_cons, Nat.add_sub_cancel]; omega
theorem by_tell (n : Nat) (k : Int) (h3 : 3 ≤ n) (h7 : n ≤ 7) (h0 : 0 ≤ k) (hk : k < facN (n - 1)) : Ring (byL n k) ∧ numP (byL n k) n = k := by
  have hf : k < facN n := by
    obtain ⟨m, rfl⟩ : ∃ m, n = m + 1 := ⟨n - 1, by omega⟩
    rw [facN_succ m (by omega)]
    rw [Nat.add_sub_cancel] at hk
    have := facN_bd m
    have : 1 * facN m ≤ ((m + 1 : Nat) : Int) * facN m := Int.mul_le_mul_of_nonneg_right (by omega) (by omega)
    omega
  have hp := takeBy_perm n (upFrom 0 n) k h7 (by simp) h0 hf
  have hl := byL_length n k
  have hn := numP_full (byL n k)
  rw [hl] at hn
  refine ⟨⟨⟨by omega, by omega, fun x hx => ?_, ?_⟩, ?_⟩, by rw [hn]; exact rk_by n _ k h7 (by simp) (upFrom_sorted 0 n) h0 hf⟩
  · obtain ⟨i, hi, rfl⟩ := List.mem_map.1 (hp.mem_iff.1 hx)
    have := List.mem_range.1 hi
    rw [hl]
    omega
  · exact hp.nodup_iff.2 ((upFrom_sorted 0 n).imp (fun h e => by omega))
  · rw [byL_eq n k (by omega) h7 h0 hk]; rfl

/-- Greater numbers tell lists that come later. -/
theorem takeBy_later : ∀ (m : Nat) (left : List Int) (k k' : Int), m ≤ 7 → left.length = m → left.Pairwise (· < ·) → 0 ≤ k → k < k' → k' < facN m →
    ∃ i, i < m ∧ (∀ j, j < i → (takeBy m left k').getD j 0 = (takeBy m left k).getD j 0) ∧ (takeBy m left k).getD i 0 < (takeBy m left k').getD i 0
  | 0, _, k, k', _, _, _, h0, hk, h1 => by simp [facN] at h1; omega
  | m + 1, left, k, k', hm, hl, hs, h0, hkk, hk' => by
    obtain ⟨a1, a2, a3, a4⟩ := place_bd m k (by omega) h0 (by omega)
    obtain ⟨b1, b2, b3, b4⟩ := place_bd m k' (by omega) (by omega) hk'
    have hf := (facN_bd m).1
    have hle : k / facN m ≤ k' / facN m := Int.ediv_le_ediv (by omega) (by omega)
    have e1 := Int.mul_ediv_add_emod k (facN m)
    have e2 := Int.mul_ediv_add_emod k' (facN m)
    by_cases hq : k / facN m = k' / facN m
    · rw [hq] at e1
      obtain ⟨i, hi, h1, h2⟩ := takeBy_later m (left.eraseIdx (k' / facN m).toNat) (k % facN m) (k' % facN m) (by omega) (erase_len left _ m hl (by omega)) (erase_sorted hs) a3 (by omega) b4
      refine ⟨i + 1, by omega, fun j hj => ?_, ?_⟩
      · rw [takeBy, takeBy, hq]
        cases j with
        | zero => rfl
        | succ j => simpa using h1 j (by omega)
      · rw [takeBy, takeBy, hq]
        simpa using h2
    · refine ⟨0, by omega, fun j hj => absurd hj (by omega), ?_⟩
      rw [takeBy, takeBy]
      simp only [List.getD_cons_zero]
      have ha : (k / facN m).toNat < left.length := by omega
      have hb : (k' / facN m).toNat < left.length := by omega
      have := (List.pairwise_iff_getElem.1 hs) (k / facN m).toNat (k' / facN m).toNat ha hb (by omega)
      simpa [List.getD, ha, hb] using this
theorem by_later (n : Nat) (k k' : Int) (h3 : 3 ≤ n) (h7 : n ≤ 7) (h0 : 0 ≤ k) (hk : k < k') (hk' : k' < facN (n - 1)) :
    ∃ i, i < n ∧ (∀ j, j < i → (byL n k').getD j 0 = (byL n k).getD j 0) ∧ (byL n k).getD i 0 < (byL n k').getD i 0 := by
  have hf : k' < facN n := by
    obtain ⟨m, rfl⟩ : ∃ m, n = m + 1 := ⟨n - 1, by omega⟩
    rw [facN_succ m (by omega)]
    rw [Nat.add_sub_cancel] at hk'
    have := facN_bd m
    have : 1 * facN m ≤ ((m + 1 : Nat) : Int) * facN m := Int.mul_le_mul_of_nonneg_right (by omega) (by omega)
    omega
  exact takeBy_later n (upFrom 0 n) k k' h7 (by simp) (upFrom_sorted 0 n) h0 hk hf
theorem byB_no {n k : Int} (h : ¬ byB n k = true) : byB n k = false := by simpa using h
end Go.Proofs.YtgojojoanhilnabDoor
