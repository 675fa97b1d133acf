/- The maths of windings when points are called otherwise: they stay; so windings by any ring are as often. -/
import Derived.Test.YtbfdbnminjhocaaNamedM
import Derived.Test.YtbfdbnminjhocaaWindX
import Derived.Test.YtbfdbnminjhocaaRank
import Derived.Test.YtbfdbnminjhocaaTwo
namespace Go.Proofs.Ytbfdbnminjhocaa
open Go.ChangeShapes Go.WideShapes Go.ChangeAt Go.RowKit

theorem sumN_next (f : Nat → Int) (n : Nat) (h : 1 ≤ n) : sumN (fun i => f ((i + 1) % n)) n = sumN f n := by
  have h1 := sumN_round f n h
  have h2 := sumN_add (fun i => f ((i + 1) % n) - f i) f n
  rw [h1, Int.zero_add] at h2
  rw [← h2]
  exact sumN_congr n fun i _ => by omega
theorem sumN_turn (f : Nat → Int) (n : Nat) (h : 1 ≤ n) : ∀ s, sumN (fun i => f ((s + i) % n)) n = sumN f n
  | 0 => sumN_congr n fun i hi => by rw [Nat.zero_add, Nat.mod_eq_of_lt hi]
  | s + 1 => by
    have ih := sumN_turn f n h s
    have h1 := sumN_next (fun i => f ((s + i) % n)) n h
    rw [ih] at h1
    rw [← h1]
    refine sumN_congr n fun i _ => ?_
    show f ((s + 1 + i) % n) = f ((s + (i + 1) % n) % n)
    rw [Nat.add_mod_mod, show s + 1 + i = s + (i + 1) by omega]
theorem callL_in {l p : List Int} (_ : Tell l) {x : Int} (hx : x ∈ l) : p.getD x.toNat 0 ∈ callL l p := by
  rw [← callL_at hx]
  exact getD_mem _ _ (by rw [callL_len]; exact List.idxOf_lt_length_of_mem hx)
theorem steps_named {l p : List Int} (h : Tell l) (hp : Tell p) (e : p.length = l.length) {x y : Int} (hx : x ∈ l) (hy : y ∈ l) :
    stepsI (cutL (callL l p) 0) (p.getD x.toNat 0) (p.getD y.toNat 0) = stepsI l x y := by
  have ht := callL_tell h hp e
  rw [steps_cut ht ht.zero (callL_in h hx) (callL_in h hy)]
  unfold stepsI
  rw [callL_len, callL_idx h hp e hx, callL_idx h hp e hy]
theorem wind_named {r l p : List Int} (hr : Tell r) (hl : Tell l) (hp : Tell p) (e1 : r.length = l.length) (e2 : p.length = l.length) :
    windL (cutL (callL r p) 0) (cutL (callL l p) 0) = windL r l := by
  have hn : 1 ≤ r.length := by have := hr.1; omega
  unfold windL
  rw [cutL_len, callL_len]
  congr 1
  have hs := sumN_turn (stepN r l) r.length hn ((callL r p).idxOf 0)
  rw [← hs]
  refine sumN_congr _ fun i hi => ?_
  have g : ∀ k, k < r.length → (cutL (callL r p) 0).getD k 0 = p.getD (r.getD (((callL r p).idxOf 0 + k) % r.length) 0).toNat 0 := fun k hk => by
    rw [cutL_get _ 0 k (by rw [callL_len]; exact hk), callL_len, callL_get r p _ (Nat.mod_lt _ (by omega))]
  have hin : ∀ k, k < r.length → r.getD k 0 ∈ l := fun k hk => by
    have := hr.2.2.1 _ (getD_mem r k hk)
    exact hl.has this.1 (by omega)
  unfold stepN
  rw [cutL_len, callL_len, g i hi, g _ (Nat.mod_lt _ (by omega)), steps_named hl hp e2 (hin _ (Nat.mod_lt _ (by omega))) (hin _ (Nat.mod_lt _ (by omega)))]
  congr 2
  rw [Nat.add_mod_mod, Nat.mod_add_mod]
  congr 1

theorem sub_len : ∀ (a b : List (List Int)), a.Nodup → (∀ x, x ∈ a → x ∈ b) → a.length ≤ b.length
  | [], _, _, _ => by simp
  | y :: t, b, hn, h => by
    have hy := (List.nodup_cons.1 hn)
    have hyb := h y (List.mem_cons_self ..)
    have ih := sub_len t (b.erase y) hy.2 fun x hx => (List.mem_erase_of_ne (fun e => hy.1 (by rw [← e]; exact hx))).2 (h x (List.mem_cons_of_mem _ hx))
    rw [List.length_erase_of_mem hyb] at ih
    have := List.length_pos_of_mem hyb
    rw [List.length_cons]
    omega
theorem perm_sub {a b : List (List Int)} (ha : a.Nodup) (hb : b.Nodup) (h : ∀ x, x ∈ a → x ∈ b) (hl : b.length ≤ a.length) : List.Perm a b :=
  (List.perm_ext_iff_of_nodup ha hb).2 fun x => ⟨h x, fun hx => Classical.byContradiction fun hn => by
    have := sub_len (x :: a) b (List.nodup_cons.2 ⟨hn, ha⟩) fun y hy => by
      rcases List.mem_cons.1 hy with rfl | hy
      · exact hx
      · exact h y hy
    rw [List.length_cons] at this
    omega⟩

/-- All rings of n points, each once. -/
theorem facM_nat (n : Nat) (h3 : 3 ≤ n) (h7 : n ≤ 7) : (facM n : Int) = facN (n - 1) := (facM_eq7 n h3 h7).1
theorem rings_ring {n : Nat} (h3 : 3 ≤ n) (h7 : n ≤ 7) {r : List Int} (h : r ∈ ringsL n) : Ring r ∧ r.length = n := by
  obtain ⟨k, hk, rfl⟩ := List.mem_map.1 h
  have := List.mem_range.1 hk
  have hf := facM_nat n h3 h7
  exact ⟨(by_tell n (k : Int) h3 h7 (by omega) (by omega)).1, byL_length n _⟩
theorem rings_all {r : List Int} (h : Ring r) : r ∈ ringsL r.length := by
  obtain ⟨h0, h1, h2⟩ := ring_num h
  have hf := facM_nat r.length h.1.1 h.1.2.1
  exact List.mem_map.2 ⟨(numP r r.length).toNat, List.mem_range.2 (by omega), by rw [Int.toNat_of_nonneg h0]; exact h2⟩
theorem rings_nodup {n : Nat} (h3 : 3 ≤ n) (h7 : n ≤ 7) : (ringsL n).Nodup := by
  have hf := facM_nat n h3 h7
  unfold ringsL List.Nodup
  rw [List.pairwise_map]
  refine List.Pairwise.imp_of_mem (R := (· < ·)) ?_ List.pairwise_lt_range
  intro a b ha hb hab e
  have ha' := List.mem_range.1 ha
  have hb' := List.mem_range.1 hb
  have q1 := (by_tell n (a : Int) h3 h7 (by omega) (by omega)).2
  have q2 := (by_tell n (b : Int) h3 h7 (by omega) (by omega)).2
  rw [e, q2] at q1
  omega
/-- Points called otherwise: a way to go through all rings. -/
theorem rings_named {n : Nat} (h3 : 3 ≤ n) (h7 : n ≤ 7) {p : List Int} (hp : Tell p) (hpl : p.length = n) : List.Perm ((ringsL n).map fun r => cutL (callL r p) 0) (ringsL n) := by
  have hnd : ((ringsL n).map fun r => cutL (callL r p) 0).Nodup := by
    unfold List.Nodup
    rw [List.pairwise_map]
    refine List.Pairwise.imp_of_mem (R := (· ≠ ·)) ?_ (rings_nodup h3 h7)
    intro a b ha hb hab e
    obtain ⟨ra, la⟩ := rings_ring h3 h7 ha
    obtain ⟨rb, lb⟩ := rings_ring h3 h7 hb
    apply hab
    have ta := callL_tell ra.1 hp (by omega)
    have tb := callL_tell rb.1 hp (by omega)
    have pz : p.getD 0 0 ∈ callL a p := by have := callL_in (p := p) ra.1 ra.1.zero; simpa using this
    have pz' : p.getD 0 0 ∈ callL b p := by have := callL_in (p := p) rb.1 rb.1.zero; simpa using this
    have ea : cutL (callL a p) (p.getD 0 0) = callL a p := by
      have := cut_head ta
      rwa [callL_get a p 0 (by omega), ra.2] at this
    have eb : cutL (callL b p) (p.getD 0 0) = callL b p := by
      have := cut_head tb
      rwa [callL_get b p 0 (by omega), rb.2] at this
    have e2 : callL a p = callL b p := by
      rw [← ea, ← eb, ← cut_cut ta ta.zero pz, ← cut_cut tb tb.zero pz', e]
    refine ext_getD a b (by omega) fun k hk => ?_
    have ha' := ra.1.2.2.1 _ (getD_mem a k hk)
    have hb' := rb.1.2.2.1 _ (getD_mem b k (by omega))
    have e3 : p.getD (a.getD k 0).toNat 0 = p.getD (b.getD k 0).toNat 0 := by
      rw [← callL_get a p k hk, ← callL_get b p k (by omega), e2]
    have i1 := idxAt hp.2.2.2 (i := (a.getD k 0).toNat) (by omega)
    have i2 := idxAt hp.2.2.2 (i := (b.getD k 0).toNat) (by omega)
    rw [e3, i2] at i1
    omega
  have hsub : ∀ r, r ∈ (ringsL n).map (fun r => cutL (callL r p) 0) → r ∈ ringsL n := fun r hr => by
    obtain ⟨s, hs, rfl⟩ := List.mem_map.1 hr
    obtain ⟨rs, ls⟩ := rings_ring h3 h7 hs
    have hr := cutL_ring (callL_tell rs.1 hp (by omega))
    have := rings_all hr
    rwa [cutL_len, callL_len, ls] at this
  exact perm_sub hnd (rings_nodup h3 h7) hsub (by rw [List.length_map]; exact Nat.le_refl _)
end Go.Proofs.Ytbfdbnminjhocaa
