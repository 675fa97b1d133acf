/- Maths of tellings: rings gone the other way, most threes, sure threes. -/
import Derived.Test.YtamnacgclhaggaaThreeM
import Derived.Test.YtamnacgclhaggaaMost
import Derived.Test.YtamnacgclhaggaaCC
namespace Go.Proofs.Ytamnacgclhaggaa

theorem tg_key1 : ∀ n : Fin 7, 3 ≤ n.val → (ringsL n.val).Nodup ∧ ((ringsL n.val).map backL).Nodup := by decide +kernel
theorem tg_key2 : ∀ n : Fin 7, 3 ≤ n.val → (ringsL n.val).all (fun l => (ringsL n.val).contains (backL l) && decide l.Nodup && backL (backL l) == l) = true := by decide +kernel
theorem tg_rings {n : Nat} (h3 : 3 ≤ n) (h6 : n ≤ 6) : (ringsL n).Nodup ∧ ((ringsL n).map backL).Nodup := tg_key1 ⟨n, by omega⟩ h3
theorem tg_ring {n : Nat} {l : List Int} (h3 : 3 ≤ n) (h6 : n ≤ 6) (hl : l ∈ ringsL n) : backL l ∈ ringsL n ∧ l.Nodup ∧ backL (backL l) = l := by
  have k := tg_key2 ⟨n, by omega⟩ h3
  simp only [List.all_eq_true, Bool.and_eq_true, List.contains_iff_mem, decide_eq_true_eq, beq_iff_eq] at k
  exact ⟨(k l hl).1.1, (k l hl).1.2, (k l hl).2⟩
theorem thr_in {n : Nat} {l t : List Int} (hI : IsR n l) (ht : Thr (n : Int) t) : ∃ x y z, t = [x, y, z] ∧ x ∈ l ∧ y ∈ l ∧ z ∈ l ∧ x ≠ y ∧ y ≠ z ∧ x ≠ z := by
  obtain ⟨x, y, z, rfl⟩ := of_three ht.1
  rw [thr3] at ht
  exact ⟨x, y, z, rfl, hI.2.2 x ht.1.1 (by omega), hI.2.2 y ht.2.1.1 (by omega), hI.2.2 z ht.2.2.1.1 (by omega), ht.2.2.2.1, ht.2.2.2.2.2, ht.2.2.2.2.1⟩
theorem turn_thr {n : Int} {t : List Int} (h : Thr n t) : Thr n (turn3 t) ∧ turn3 (turn3 t) = t := by
  obtain ⟨x, y, z, rfl⟩ := of_three h.1
  refine ⟨?_, rfl⟩
  show Thr n [x, z, y]
  rw [thr3] at h ⊢
  exact ⟨h.1, h.2.2.1, h.2.1, h.2.2.2.2.1, h.2.2.2.1, h.2.2.2.2.2.symm⟩
theorem has3_some {l : List Int} {x y z : Int} (hx : x ∈ l) (hy : y ∈ l) (hz : z ∈ l) (h2 : y ≠ z) : has3 l [x, y, z] = true ∨ has3 l [x, z, y] = true := by
  have a1 := List.idxOf_lt_length_of_mem hx
  have a2 := List.idxOf_lt_length_of_mem hy
  have a3 := List.idxOf_lt_length_of_mem hz
  have b2 := idx_apart hy hz h2
  unfold has3 stepsI
  simp only [List.getD_cons_zero, List.getD_cons_succ, decide_eq_true_eq]
  generalize l.idxOf x = i at *
  generalize l.idxOf y = j at *
  generalize l.idxOf z = k at *
  rw [emod_sub (by omega) (by omega) (by omega) (by omega), emod_sub (by omega) (by omega) (by omega) (by omega)]
  split <;> split <;> omega
theorem has3_turn3 {n : Nat} {l t : List Int} (h3 : 3 ≤ n) (h6 : n ≤ 6) (hl : l ∈ ringsL n) (ht : Thr (n : Int) t) : has3 l (turn3 t) = !has3 l t := by
  obtain ⟨x, y, z, rfl, hx, hy, hz, h1, h2, h4⟩ := thr_in (ringsL_is n h3 h6 l hl) ht
  show has3 l [x, z, y] = _
  cases e : has3 l [x, y, z] with
  | true => rw [has3_not e]; rfl
  | false =>
    rcases has3_some hx hy hz h2 with h | h
    · rw [h] at e; cases e
    · rw [h]; rfl
theorem has3_backL {n : Nat} {l t : List Int} (h3 : 3 ≤ n) (h6 : n ≤ 6) (hl : l ∈ ringsL n) (ht : Thr (n : Int) t) : has3 (backL l) t = !has3 l t := by
  obtain ⟨hb, hn, hbb⟩ := tg_ring h3 h6 hl
  have key : ∀ {m s}, m ∈ ringsL n → Thr (n : Int) s → has3 m s = true → has3 (backL m) (turn3 s) = true := by
    intro m s hm hs h
    obtain ⟨x, y, z, rfl, hx, hy, hz, h1, h2, h4⟩ := thr_in (ringsL_is n h3 h6 m hm) hs
    exact has3_back (tg_ring h3 h6 hm).2.1 hx hy hz h1 h2 h4 h
  have e : has3 (backL l) (turn3 t) = has3 l t := by
    rw [Bool.eq_iff_iff]
    refine ⟨fun h => ?_, key hl ht⟩
    have := key hb (turn_thr ht).1 h
    rwa [hbb, (turn_thr ht).2] at this
  have f := has3_turn3 h3 h6 hb ht
  rw [e] at f
  rw [f, Bool.not_not]
/-- Threes gone back. -/
theorem back3_thr {n : Int} {L : List (List Int)} (h : ∀ t ∈ L, Thr n t) : (∀ t ∈ back3 L, Thr n t) ∧ back3 (back3 L) = L := by
  constructor
  · intro t ht
    simp only [back3, List.mem_map] at ht
    obtain ⟨s, hs, rfl⟩ := ht
    exact (turn_thr (h s hs)).1
  · simp only [back3, List.map_map]
    conv => rhs; rw [← List.map_id L]
    exact List.map_congr_left fun t ht => (turn_thr (h t ht)).2
theorem back3_len (L : List (List Int)) : (back3 L).length = L.length := by simp [back3]
theorem tel_back {q : Int} {L : List (List Int)} (h : Tel q L) : Tel q (back3 L) := ⟨h.1, h.2.1, by rw [back3_len]; exact h.2.2.1, (back3_thr h.2.2.2).1⟩
theorem tel_tail {q : Int} {L : List (List Int)} (h : Tel q L) : Tel q L.tail := ⟨h.1, h.2.1, by have := h.2.2.1; simp; omega, fun t ht => h.2.2.2 t (List.mem_of_mem_tail ht)⟩
theorem cnt_back {n : Nat} {L : List (List Int)} {l : List Int} (h3 : 3 ≤ n) (h6 : n ≤ 6) (hl : l ∈ ringsL n) (hL : ∀ t ∈ L, Thr (n : Int) t) : cntL l (back3 L) = L.length - cntL l L ∧ cntL (backL l) L = L.length - cntL l L := by
  have key : ∀ (p : List Int → Bool), (L.filter fun t => !p t).length = L.length - (L.filter p).length := fun p => by
    have e : ∀ M : List (List Int), (M.filter fun t => !p t).length + (M.filter p).length = M.length := fun M => by
      induction M with
      | nil => rfl
      | cons a t ih =>
        rw [List.filter_cons, List.filter_cons]
        cases p a <;> simp <;> omega
    have := e L
    omega
  constructor
  · unfold cntL back3
    rw [List.filter_map, List.length_map, ← key]
    congr 1
    exact List.filter_congr fun t ht => has3_turn3 h3 h6 hl (hL t ht)
  · unfold cntL
    rw [← key]
    congr 1
    exact List.filter_congr fun t ht => has3_backL h3 h6 hl (hL t ht)
theorem cnt_all {l : List Int} {L : List (List Int)} : cntL l L = L.length ↔ ∀ t ∈ L, has3 l t = true := by
  unfold cntL
  rw [List.length_filter_eq_length_iff]
theorem cnt_back2 {n : Nat} {L : List (List Int)} {l : List Int} (h3 : 3 ≤ n) (h6 : n ≤ 6) (hl : l ∈ ringsL n) (hL : ∀ t ∈ L, Thr (n : Int) t) : cntL (backL l) (back3 L) = cntL l L := by
  have h1 := (cnt_back h3 h6 (tg_ring h3 h6 hl).1 hL).1
  rw [h1, (cnt_back h3 h6 hl hL).2]
  have := cntL_le l L
  omega
theorem rings_perm {n : Nat} (h3 : 3 ≤ n) (h6 : n ≤ 6) : ((ringsL n).map backL).Perm (ringsL n) := by
  obtain ⟨h1, h2⟩ := tg_rings h3 h6
  refine (List.perm_ext_iff_of_nodup h2 h1).2 fun l => ?_
  rw [List.mem_map]
  constructor
  · rintro ⟨m, hm, rfl⟩
    exact (tg_ring h3 h6 hm).1
  · intro hl
    exact ⟨backL l, (tg_ring h3 h6 hl).1, (tg_ring h3 h6 hl).2.2⟩
theorem agree_back {n : Nat} {L : List (List Int)} (h3 : 3 ≤ n) (h6 : n ≤ 6) (hL : ∀ t ∈ L, Thr (n : Int) t) : (agreeL n (back3 L)).length = (agreeL n L).length := by
  unfold agreeL
  rw [← ((rings_perm h3 h6).filter _).length_eq, List.filter_map, List.length_map]
  congr 1
  exact List.filter_congr fun l hl => by
    show decide (cntL (backL l) (back3 L) = (back3 L).length) = _
    rw [cnt_back2 h3 h6 hl hL, back3_len]
/-- The most that a ring has. -/
theorem bst_max (n : Nat) (L : List (List Int)) : ∀ k j : Nat, j < k → (cntL (byL n (j : Int)) L : Int) ≤ (bst n L k).2
  | 0, j, h => absurd h (by omega)
  | k + 1, j, h => by
    by_cases hc : (bst n L k).2 < (cntL (byL n (k : Int)) L : Int)
    · rw [bst, if_pos hc]
      rcases Nat.lt_succ_iff_lt_or_eq.1 h with h | rfl
      · have := bst_max n L k j h
        show _ ≤ (cntL (byL n (k : Int)) L : Int)
        omega
      · exact Int.le_refl _
    · rw [bst, if_neg hc]
      rcases Nat.lt_succ_iff_lt_or_eq.1 h with h | rfl
      · exact bst_max n L k j h
      · omega
theorem most_max {n : Nat} {L : List (List Int)} {l : List Int} (hl : l ∈ ringsL n) : (cntL l L : Int) ≤ mostV n L := by
  simp only [ringsL, List.mem_map, List.mem_range] at hl
  obtain ⟨k, hk, rfl⟩ := hl
  exact bst_max n L _ k hk
theorem most_ring {n : Nat} {L : List (List Int)} (h3 : 3 ≤ n) (h6 : n ≤ 6) : mostL n L ∈ ringsL n := by
  obtain ⟨j, hj, h1, _⟩ := bst_is n L (facM n) (by have := (facM_eq n h3 h6).2.2.1; omega)
  unfold mostL ringsL
  rw [h1]
  exact List.mem_map.2 ⟨j, List.mem_range.2 hj, rfl⟩
theorem most_bd {n : Nat} {L : List (List Int)} (h3 : 3 ≤ n) (h6 : n ≤ 6) (hL : ∀ t ∈ L, Thr (n : Int) t) : (L.length : Int) ≤ 2 * mostV n L ∧ mostV n L ≤ L.length ∧ (mostV n L = L.length ↔ 0 < (agreeL n L).length) := by
  have hm := most_ring (L := L) h3 h6
  have e := (most_is n L h3 h6).2
  have hle := cntL_le (mostL n L) L
  refine ⟨?_, by omega, ?_⟩
  · have h1 := (cnt_back h3 h6 hm hL).2
    have h2 := most_max (L := L) (tg_ring h3 h6 hm).1
    omega
  · rw [List.length_pos_iff_exists_mem]
    unfold agreeL
    constructor
    · intro h
      exact ⟨mostL n L, List.mem_filter.2 ⟨hm, by simp; omega⟩⟩
    · rintro ⟨l, hl⟩
      obtain ⟨h1, h2⟩ := List.mem_filter.1 hl
      have h4 := most_max (L := L) h1
      simp at h2
      omega
theorem most_back {n : Nat} {L : List (List Int)} (h3 : 3 ≤ n) (h6 : n ≤ 6) (hL : ∀ t ∈ L, Thr (n : Int) t) : mostV n (back3 L) = mostV n L := by
  have key : ∀ {M}, (∀ t ∈ M, Thr (n : Int) t) → mostV n M ≤ mostV n (back3 M) := fun {M} hM => by
    have hm := most_ring (L := M) h3 h6
    have e := (most_is n M h3 h6).2
    have h1 := cnt_back2 h3 h6 hm hM
    have h2 := most_max (L := back3 M) (tg_ring h3 h6 hm).1
    omega
  have a := key hL
  have b := key (back3_thr hL).1
  rw [(back3_thr hL).2] at b
  omega
theorem mem_agree {n : Nat} {l : List Int} {L : List (List Int)} : l ∈ agreeL n L ↔ l ∈ ringsL n ∧ ∀ t ∈ L, has3 l t = true := by
  unfold agreeL
  rw [List.mem_filter, decide_eq_true_eq, cnt_all]
theorem mem_shared {n : Nat} {t : List Int} {R : List (List Int)} : t ∈ sharedL n R ↔ Thr (n : Int) t ∧ ∀ l ∈ R, has3 l t = true := by
  unfold sharedL
  rw [List.mem_filter, every_thr, List.all_eq_true]
/-- How many threes are sure. -/
theorem half_key : ∀ n : Fin 7, 3 ≤ n.val → ((ringsL n.val).all fun l => 2 * ((everyL n.val).filter (has3 l)).length == n.val * (n.val - 1) * (n.val - 2)) = true ∧ (everyL n.val).length = n.val * (n.val - 1) * (n.val - 2) := by decide +kernel
def looks (n : Nat) (l : List Int) : List Bool := (everyL n).filterMap fun t => if t.getD 0 0 = 0 then some (has3 l t) else none
theorem looks_key : ∀ n : Fin 7, 3 ≤ n.val → ((ringsL n.val).map (looks n.val)).Nodup := by decide +kernel
theorem filter_fewer {α : Type} (p q : α → Bool) : ∀ (l : List α) (x : α), x ∈ l → p x = true → q x = false → (∀ y ∈ l, q y = true → p y = true) → (l.filter q).length < (l.filter p).length
  | a :: t, x, hx, hpx, hqx, himp => by
    have ht : (t.filter q).length ≤ (t.filter p).length := by
      have e : t.filter q = (t.filter p).filter q := by
        rw [List.filter_filter]
        refine List.filter_congr fun y hy => ?_
        cases hq : q y with
        | false => rfl
        | true => rw [himp y (by simp [hy]) hq]; rfl
      rw [e]
      exact List.length_filter_le _ _
    rcases List.mem_cons.1 hx with rfl | hx
    · rw [List.filter_cons_of_neg (by simp [hqx]), List.filter_cons_of_pos hpx, List.length_cons]
      omega
    · have ih := filter_fewer p q t x hx hpx hqx fun y hy => himp y (by simp [hy])
      cases hq : q a with
      | false =>
        rw [List.filter_cons_of_neg (by simp [hq])]
        rw [List.filter_cons]
        split <;> simp <;> omega
      | true =>
        rw [List.filter_cons_of_pos hq, List.filter_cons_of_pos (himp a (by simp) hq)]
        simpa using ih
theorem inj_of_nodup {α β : Type} (f : α → β) : ∀ (l : List α), (l.map f).Nodup → ∀ {x y : α}, x ∈ l → y ∈ l → f x = f y → x = y
  | [], _, x, y, hx, _, _ => by simp at hx
  | a :: t, hd, x, y, hx, hy, e => by
    obtain ⟨h1, h2⟩ := List.nodup_cons.1 hd
    rcases List.mem_cons.1 hx with hxa | hxt
    · rcases List.mem_cons.1 hy with hya | hyt
      · rw [hxa, hya]
      · exact absurd (List.mem_map.2 ⟨y, hyt, by rw [← e, hxa]⟩) h1
    · rcases List.mem_cons.1 hy with hya | hyt
      · exact absurd (List.mem_map.2 ⟨x, hxt, by rw [e, hya]⟩) h1
      · exact inj_of_nodup f t h2 hxt hyt e
theorem fm_congr {α β : Type} (f g : α → Option β) : ∀ (l : List α), (∀ x ∈ l, f x = g x) → l.filterMap f = l.filterMap g
  | [], _ => rfl
  | a :: t, h => by
    rw [List.filterMap_cons, List.filterMap_cons, h a (by simp), fm_congr f g t fun x hx => h x (by simp [hx])]
theorem sure_count {n : Nat} {R : List (List Int)} (h3 : 3 ≤ n) (h6 : n ≤ 6) (hR : ∀ l ∈ R, l ∈ ringsL n) (hd : R.Nodup) :
    ((sharedL n R).length = n * (n - 1) * (n - 2) ↔ R.length = 0) ∧ (2 * (sharedL n R).length = n * (n - 1) * (n - 2) ↔ R.length = 1) := by
  obtain ⟨k1, k2⟩ := half_key ⟨n, by omega⟩ h3
  simp only [List.all_eq_true, beq_iff_eq] at k1 k2
  have k3 := looks_key ⟨n, by omega⟩ h3
  simp only at k3
  have hp : 6 ≤ n * (n - 1) * (n - 2) := by
    obtain rfl | rfl | rfl | rfl : n = 3 ∨ n = 4 ∨ n = 5 ∨ n = 6 := by omega
    all_goals decide
  match R, hR, hd with
  | [], _, _ =>
    have e : sharedL n [] = everyL n := by unfold sharedL; exact List.filter_eq_self.2 fun t _ => rfl
    rw [e, k2]
    simp
    omega
  | [l], hR, _ =>
    have e : sharedL n [l] = (everyL n).filter (has3 l) := by unfold sharedL; exact List.filter_congr fun t _ => by simp
    have := k1 l (hR l (by simp))
    rw [e]
    simp
    omega
  | l :: m :: t, hR, hd =>
    have hl := hR l (by simp)
    have hm := hR m (by simp)
    have hne : l ≠ m := by
      have := (List.nodup_cons.1 hd).1
      intro e
      exact this (by simp [e])
    have hk := k1 l hl
    have hlook : looks n l ≠ looks n m := fun e => hne (by
      exact inj_of_nodup (looks n) (ringsL n) k3 hl hm e)
    have ⟨s, hs, hsl⟩ : ∃ s ∈ everyL n, has3 l s ≠ has3 m s := by
      apply Classical.byContradiction
      intro hno
      apply hlook
      unfold looks
      refine fm_congr _ _ (everyL n) fun s hs => ?_
      have : has3 l s = has3 m s := Classical.byContradiction fun h => hno ⟨s, hs, h⟩
      rw [this]
    have hst := (every_thr n s).1 hs
    have ⟨u, hu, hul, hum⟩ : ∃ u ∈ everyL n, has3 l u = true ∧ has3 m u = false := by
      cases e : has3 l s with
      | true =>
        refine ⟨s, hs, e, ?_⟩
        rw [e] at hsl
        cases e2 : has3 m s with
        | true => exact absurd e2.symm hsl
        | false => rfl
      | false =>
        rw [e] at hsl
        have e2 : has3 m s = true := by
          cases e2 : has3 m s with
          | true => rfl
          | false => exact absurd e2.symm hsl
        refine ⟨turn3 s, (every_thr n _).2 (turn_thr hst).1, ?_, ?_⟩
        · rw [has3_turn3 h3 h6 hl hst, e]; rfl
        · rw [has3_turn3 h3 h6 hm hst, e2]; rfl
    have hlt := filter_fewer (has3 l) (fun t' => (l :: m :: t).all fun l => has3 l t') (everyL n) u hu hul (by simp [hum]) (fun y _ hy => by
      rw [List.all_eq_true] at hy
      exact hy l (by simp))
    have e : (sharedL n (l :: m :: t)).length < ((everyL n).filter (has3 l)).length := hlt
    simp only [List.length_cons]
    omega
end Go.Proofs.Ytamnacgclhaggaa
