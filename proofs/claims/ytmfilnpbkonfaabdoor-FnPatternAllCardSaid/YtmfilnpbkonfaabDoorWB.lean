/- Several texts as one: WvR WvQ WvT WvX WvE WvF WvG WvU WvS ArM ArS. -/
import Derived.Test.YtmfilnpbkonfaabDoorWA
import Derived.Test.YtmfilnpbkonfaabDoorPD
import Derived.Test.YtmfilnpbkonfaabDoorMA
namespace Go.Proofs.YtmfilnpbkonfaabDoor
open Go.ChangeShapes Go.WideShapes Go.ChangeAt Go.RowKit

def asked (n : Int) : Bool := decide (3 ≤ n) && decide (n ≤ 6)
theorem flipW {P : Program} {f : FuncId} {args : Array Value} {w : World} {v : Value} (h : Calls P f args w fun e w' => e = .returned v ∧ w = w') : Calls P f args w fun e w' => e = .returned v ∧ w' = w :=
  h.mono fun _ _ ⟨a, b⟩ => ⟨a, b.symm⟩
def prtL (n : Int) (l : List Int) : List Int := if Prt n l then l else []
theorem prtL_yes {n : Int} {l : List Int} (h : Prt n l) : prtL n l = l := by rw [prtL, if_pos h]
theorem prtL_no {n : Int} {l : List Int} (h : ¬ Prt n l) : prtL n l = [] := by rw [prtL, if_neg h]

end Go.Proofs.YtmfilnpbkonfaabDoor

namespace Go.Proofs.YtmfilnpbkonfaabDoor
open Go.ChangeShapes Go.WideShapes Go.ChangeAt Go.RowKit

set_option maxHeartbeats 400000 in
theorem equalS_drew (A B : Option Addr) (n m c d : Nat) (xs ys : List Int) (H : Nat) (w : World) (hx : Rd w H A n xs) (hy : Rd w H B m ys) (hn : n ≤ 1048576) (_ : m ≤ 1048576) :
    Calls Tryd.prog 59 #[.slice A n c, .slice B m d] w fun e w' => e = .returned (.bool (same xs ys)) ∧ ∃ m, w' = w.drewN m := by
  have hlx := Lib.hid hx.len
  have hly := Lib.hid hy.len
  by_cases hnm : n = m
  · obtain ⟨r, hr⟩ : ∃ r, r = same xs ys := ⟨_, rfl⟩
    rw [← hr]
    have HR := Lib.hid hr
    clear hr
    subst hnm
    go_enter Tryd.func59, Tryd.ntmps59
    go_wp2
    go_loopw [5] (fun i wr => ∃ k : Nat, k ≤ n ∧ i = .int .i64 k ∧ Hid (xs.take k = ys.take k) ∧ Rd wr H A n xs ∧ Rd wr H B n ys ∧ ∃ q, wr = w.drewN q) (fun i _ => n - (intOf i).toNat)
    case atStart => exact ⟨0, Nat.zero_le _, rfl, by simp [Hid], hx, hy, 0, rfl⟩
    case round =>
      obtain ⟨k, hk, rfl, htk, hrx, hry, q, hbl⟩ := hrel
      have HBL := Lib.hid hbl
      clear hbl
      by_cases hlt : k < n
      · obtain ⟨b, o, rfl, hbB, hcs⟩ := hrx.at_ (by omega)
        obtain ⟨b', o', rfl, hbB', hcs'⟩ := hry.at_ (by omega)
        have hc := hcs k hlt
        have hc' := hcs' k hlt
        have T1 := Lib.hid (take_eq_step xs ys k (by rw [hlx.out]; exact hlt) (by rw [hly.out]; exact hlt) htk.out)
        have T2 : Hid (xs.getD k 0 ≠ ys.getD k 0 → xs ≠ ys) := fun h e => h (by rw [e])
        clear hcs hcs' hx hy
        generalize xs.getD k 0 = x at hc T1 T2
        generalize ys.getD k 0 = y at hc' T1 T2
        by_cases hxy : x = y
        · have hb : (x != y) = false := by simp [hxy]
          have T3 := Lib.hid (T1.out hxy)
          clear hxy T1 T2
          go_wp2
          go_quiet (fail)
          go_wp2
          go_roundw
          case rel => exact ⟨k + 1, by omega, by go_num, T3, hrx.drewN _, hry.drewN _, q + nq, by rw [HBL.out, World.drewN_drewN]⟩
          case measure => simp [intOf]; omega
        · have hb : (x != y) = true := by simp [hxy]
          have T3 := Lib.hid (T2.out hxy)
          clear hxy T1 T2
          go_wp2
          go_quiet (fail)
          go_wp2
          go_ret
          exact ⟨by rw [HR.out]; simp [same, T3.out], q + nq, by rw [HBL.out, World.drewN_drewN]⟩
      · go_wp2
        go_ret
        obtain rfl : k = n := by omega
        have e : xs = ys := by
          have := htk.out
          rwa [List.take_of_length_le (by rw [hlx.out]; omega), List.take_of_length_le (by rw [hly.out]; omega)] at this
        exact ⟨by rw [HR.out]; simp [same, e], q, HBL.out⟩
  · have hr : same xs ys = false := by
      simp only [same, decide_eq_false_iff_not]
      rintro rfl
      exact hnm (hlx.out.symm.trans hly.out)
    rw [hr]
    have hb : ((n : Int) != (m : Int)) = true := by simp; omega
    clear hr hnm
    go_enter Tryd.func59, Tryd.ntmps59
    go_wp2
    go_ret
    exact ⟨rfl, 0, rfl⟩


end Go.Proofs.YtmfilnpbkonfaabDoor

namespace Go.Proofs.YtmfilnpbkonfaabDoor
open Go.ChangeShapes Go.WideShapes Go.ChangeAt Go.RowKit

theorem inQ (n a b : Int) (r : Bool) (h : (decide (a ≤ n) && decide (n ≤ b)) = r) (w : World) : Calls Tryd.prog 58 #[.int .i64 n, .int .i64 a, .int .i64 b] w fun e w' => e = .returned (.bool r) ∧ w' = w := by
  subst h
  exact flipW (in_any n a b w)

/-- What the loop has seen of a list: no point yet that tells it is no part. -/
def PrtTo (n : Int) (l : List Int) (k : Nat) : Prop := PtsTo n l k ∧ ∀ j, j < k → l.getD 0 0 ≤ l.getD j 0
theorem prtTo_step (n : Int) (l : List Int) (k : Nat) (hkl : k < l.length) (h : PrtTo n l k) :
    (0 ≤ l.getD k 0 → l.getD k 0 < n → l.getD k 0 ∉ l.take k → l.getD 0 0 ≤ l.getD k 0 → PrtTo n l (k + 1)) ∧ (¬ (0 ≤ l.getD k 0 ∧ l.getD k 0 < n ∧ l.getD k 0 ∉ l.take k ∧ l.getD 0 0 ≤ l.getD k 0) → ¬ Prt n l) := by
  have hp := pts_step n l k hkl h.1
  refine ⟨fun a b c d => ⟨hp.1 ⟨a, b, c⟩, fun j hj => ?_⟩, fun hx ht => ?_⟩
  · rcases Nat.lt_succ_iff_lt_or_eq.1 hj with hj | rfl
    · exact h.2 j hj
    · exact d
  · have hd := ht.2.2.2 _ (getD_mem l k hkl)
    exact hp.2 (fun a => hx ⟨a.1, a.2.1, a.2.2, hd⟩) ht.2.2.1
theorem prtTo_end (n : Int) (l : List Int) (h36 : 3 ≤ n ∧ n ≤ 6) (h0 : 0 < l.length) (h : PrtTo n l l.length) : Prt n l := by
  refine ⟨h36, by intro e; rw [e] at h0; simp at h0, pts_end n l h.1, fun x hx => ?_⟩
  obtain ⟨j, hj, rfl⟩ := List.getElem_of_mem hx
  have := h.2 j hj
  simpa [List.getD, hj] using this
theorem take_bd {n : Int} {l : List Int} {k : Nat} (h6 : n ≤ 6) (h : PrtTo n l k) (hk : k ≤ l.length) : ∀ x ∈ l.take k, 0 ≤ x ∧ x < 7 := fun x hx => by
  obtain ⟨j, hj, rfl⟩ := List.getElem_of_mem hx
  have hj' : j < k := by rw [List.length_take] at hj; omega
  have := h.1.1 j hj'
  rw [List.getElem_take]
  simp [List.getD, show j < l.length by omega] at this
  omega

end Go.Proofs.YtmfilnpbkonfaabDoor

namespace Go.Proofs.YtmfilnpbkonfaabDoor
open Go.ChangeShapes Go.WideShapes Go.ChangeAt Go.RowKit

end Go.Proofs.YtmfilnpbkonfaabDoor

namespace Go.Proofs.YtmfilnpbkonfaabDoor
open Go.ChangeShapes Go.WideShapes Go.ChangeAt Go.RowKit

theorem part_info : (Tryd.prog.info? 74).map (fun i => (i.zero, i.size, i.bytes)) = some (some (.slice none 0 0), 1, 24) := by kernel_rfl
/-- A slice of parts of the call's own. -/
def PrtS (w : World) (B : Nat) (v : Value) (L : List (List Int)) : Prop :=
  ∃ xs : List Value, w.ownsRow B 74 1 v L.length xs ∧ ∀ k, k < L.length → ∃ vk, xs[k]? = some vk ∧ RowV w B vk (rowK L k)
section
variable {w w' : World} {B : Nat} {v : Value} {L : List (List Int)}
theorem PrtS.slice (h : PrtS w B v L) : ∃ A c, v = .slice A L.length c ∧ L.length ≤ c ∧ c ≤ 9223372036854775807 := by
  obtain ⟨xs, h1, _⟩ := h
  rcases h1.2 with ⟨e, h0⟩ | ⟨g, cap, cur, e, _, _, h2, h3, _⟩
  · exact ⟨none, 0, by rw [e, h0], by omega, by omega⟩
  · exact ⟨_, cap, e, h2, by unfold maxLen at h3; omega⟩
theorem PrtS.rd {A : Option Addr} {n c : Nat} (h : PrtS w B (.slice A n c) L) : n = L.length ∧ RdS w w.heap.size A n L := by
  obtain ⟨xs, h1, h2⟩ := h
  rcases h1.2 with ⟨e, h0⟩ | ⟨g, cap, cur, e, hB, hg, hc, hm, hs, ht⟩
  · injection e with e1 e2 e3
    subst e1; subst e2
    rw [List.eq_nil_of_length_eq_zero h0]
    exact ⟨rfl, RdS.nil⟩
  · injection e with e1 e2 e3
    subst e1; subst e2; subst e3
    refine ⟨rfl, rfl, fun _ => ⟨g, 0, rfl, (Array.getElem?_eq_some_iff.1 hg).1, fun k hk => ?_⟩⟩
    obtain ⟨vk, h3, h4, A, d, rfl, h5, h6⟩ := h2 k hk
    refine ⟨A, d, ?_, h4.rd.2, h5, h6⟩
    rw [Nat.zero_add, cell_of_row w g _ cur _ _ hg]
    rw [← ht, List.getElem?_take, if_pos (by omega)] at h3
    simpa using h3
theorem PrtS.nil (w : World) (B : Nat) : PrtS w B (.slice none 0 0) [] := ⟨[], ⟨by simp, .inl ⟨rfl, rfl⟩⟩, fun k hk => absurd hk (by simp)⟩
end
theorem part_oneCell {w : World} {B : Nat} {v : Value} {l : List Int} (h : RowV w B v l) : v.oneCell' = true := by
  obtain ⟨_, A, c, rfl, _⟩ := h
  rfl
/-- The first k parts, nothing behind. -/
def firstV (vs : List Value) (m : Nat) : List Value := vs ++ List.replicate (m - vs.length) (.slice none 0 0)
theorem firstV_set (vs : List Value) (m : Nat) (v : Value) (h : vs.length < m) : (firstV vs m).set vs.length v = firstV (vs ++ [v]) m := by
  unfold firstV
  rw [List.set_append_right _ _ (by omega), Nat.sub_self]
  obtain ⟨d, hd⟩ : ∃ d, m - vs.length = d + 1 := ⟨m - vs.length - 1, by omega⟩
  rw [hd, List.length_append, List.length_singleton, show m - (vs.length + 1) = d by omega, List.replicate_succ, List.set_cons_zero, List.append_assoc]
  rfl
theorem firstV_get (vs : List Value) (m : Nat) (h : vs.length < m) : (firstV vs m)[vs.length]? = some (.slice none 0 0) := by
  unfold firstV
  rw [List.getElem?_append_right (by omega)]
  simp [List.getElem?_replicate]
  omega
theorem firstV_full (vs : List Value) : firstV vs vs.length = vs := by simp [firstV]

end Go.Proofs.YtmfilnpbkonfaabDoor

namespace Go.Proofs.YtmfilnpbkonfaabDoor
open Go.ChangeShapes Go.WideShapes Go.ChangeAt Go.RowKit

/-- Whether lists are at most ten parts of n points. -/
def Lst (n : Int) (L : List (List Int)) : Prop := (3 ≤ n ∧ n ≤ 6) ∧ L.length ≤ 10 ∧ ∀ l ∈ L, Prt n l
instance (n : Int) (L : List (List Int)) : Decidable (Lst n L) := by unfold Lst; infer_instance
def lst (n : Int) (L : List (List Int)) : Bool := decide (Lst n L)
def lstL (n : Int) (L : List (List Int)) : List (List Int) := if Lst n L then L else []
theorem lst_yes {n : Int} {L : List (List Int)} (h : Lst n L) : lst n L = true ∧ lstL n L = L := ⟨by simpa [lst] using h, by rw [lstL, if_pos h]⟩
theorem lst_no {n : Int} {L : List (List Int)} (h : ¬ Lst n L) : lst n L = false ∧ lstL n L = [] := ⟨by simpa [lst] using h, by rw [lstL, if_neg h]⟩

end Go.Proofs.YtmfilnpbkonfaabDoor

namespace Go.Proofs.YtmfilnpbkonfaabDoor
open Go.ChangeShapes Go.WideShapes Go.ChangeAt Go.RowKit

/-- Whether two lists are parts of n points that have each point in just one of them. -/
def Wov (n : Int) (p q : List Int) : Prop := Prt n p ∧ Prt n q ∧ maskN p ^^^ maskN q = 2 ^ n.toNat - 1
instance (n : Int) (p q : List Int) : Decidable (Wov n p q) := by unfold Wov; infer_instance
def wov (n : Int) (p q : List Int) : Bool := decide (Wov n p q)
theorem wov_yes {n : Int} {p q : List Int} (h : Wov n p q) : wov n p q = true := by simpa [wov] using h
theorem wov_no {n : Int} {p q : List Int} (h : ¬ Wov n p q) : wov n p q = false := by simpa [wov] using h

theorem mask_fits {n : Int} {p : List Int} (h : Prt n p) (j : Nat) (hj : n ≤ j) : (maskN p).testBit j = false := by
  have := mask_bit p (fun x hx => (h.bd x hx).1) j 0
  rw [show maskN p = (p.foldl (fun s x => s ||| 2 ^ x.toNat) 0) from rfl, this]
  simp only [Nat.zero_testBit, Bool.false_or, decide_eq_false_iff_not]
  intro hm
  have := h.2.2.1.1 _ hm
  omega
theorem mask_at {n : Int} {p : List Int} (h : Prt n p) (j : Nat) : (maskN p).testBit j = decide ((j : Int) ∈ p) := by
  have := mask_bit p (fun x hx => (h.bd x hx).1) j 0
  rw [show maskN p = (p.foldl (fun s x => s ||| 2 ^ x.toNat) 0) from rfl, this]
  simp
/-- Each point is in just one of the two. -/
theorem xor_full {n : Int} {p q : List Int} (hp : Prt n p) (hq : Prt n q) : maskN p ^^^ maskN q = 2 ^ n.toNat - 1 ↔ ∀ j : Nat, (j : Int) < n → ((j : Int) ∈ p ↔ (j : Int) ∉ q) := by
  have h3 := hp.1
  constructor
  · intro e j hj
    have := congrArg (fun s => s.testBit j) e
    simp only [Nat.testBit_xor, mask_at hp, mask_at hq, Nat.testBit_two_pow_sub_one] at this
    have hj' : decide (j < n.toNat) = true := by simp; omega
    rw [hj'] at this
    by_cases h1 : (j : Int) ∈ p <;> by_cases h2 : (j : Int) ∈ q <;> simp_all
  · intro h
    apply Nat.eq_of_testBit_eq
    intro j
    simp only [Nat.testBit_xor, mask_at hp, mask_at hq, Nat.testBit_two_pow_sub_one]
    by_cases hj : (j : Int) < n
    · have hj' : decide (j < n.toNat) = true := by simp; omega
      rw [hj']
      have := h j hj
      by_cases h1 : (j : Int) ∈ p <;> by_cases h2 : (j : Int) ∈ q <;> simp_all
    · have hj' : decide (j < n.toNat) = false := by simp; omega
      have h1 : (j : Int) ∉ p := fun hm => by have := hp.2.2.1.1 _ hm; omega
      have h2 : (j : Int) ∉ q := fun hm => by have := hq.2.2.1.1 _ hm; omega
      rw [hj', decide_eq_false h1, decide_eq_false h2]; rfl
theorem or_full {n : Int} {p q : List Int} (hp : Prt n p) (hq : Prt n q) : maskN p ||| maskN q = 2 ^ n.toNat - 1 ↔ ∀ j : Nat, (j : Int) < n → ((j : Int) ∈ p ∨ (j : Int) ∈ q) := by
  have h3 := hp.1
  constructor
  · intro e j hj
    have := congrArg (fun s => s.testBit j) e
    simp only [Nat.testBit_or, mask_at hp, mask_at hq, Nat.testBit_two_pow_sub_one] at this
    have hj' : decide (j < n.toNat) = true := by simp; omega
    rw [hj'] at this
    by_cases h1 : (j : Int) ∈ p <;> by_cases h2 : (j : Int) ∈ q <;> simp_all
  · intro h
    apply Nat.eq_of_testBit_eq
    intro j
    simp only [Nat.testBit_or, mask_at hp, mask_at hq, Nat.testBit_two_pow_sub_one]
    by_cases hj : (j : Int) < n
    · have hj' : decide (j < n.toNat) = true := by simp; omega
      rw [hj']
      have := h j hj
      by_cases h1 : (j : Int) ∈ p <;> by_cases h2 : (j : Int) ∈ q <;> simp_all
    · have hj' : decide (j < n.toNat) = false := by simp; omega
      have h1 : (j : Int) ∉ p := fun hm => by have := hp.2.2.1.1 _ hm; omega
      have h2 : (j : Int) ∉ q := fun hm => by have := hq.2.2.1.1 _ hm; omega
      rw [hj', decide_eq_false h1, decide_eq_false h2]; rfl
theorem nodup_all {n : Nat} {l : List Int} (hd : l.Nodup) (hin : ∀ x ∈ l, 0 ≤ x ∧ x < n) (hl : n ≤ l.length) (j : Nat) (hj : j < n) : (j : Int) ∈ l := by
  have h1 := nodup_le n l hd hin
  have e : l.length = n := by omega
  exact all_in l hd (fun x hx => by rw [e]; exact hin x hx) j (by omega)
/-- The model's way to ask it. -/
theorem wov_model {n : Int} {p q : List Int} (hp : Prt n p) (hq : Prt n q) : Wov n p q ↔ ((p.length : Int) + q.length = n ∧ maskN p ||| maskN q = 2 ^ n.toNat - 1) := by
  have h3 := hp.1
  have key : Wov n p q ↔ ∀ j : Nat, (j : Int) < n → ((j : Int) ∈ p ↔ (j : Int) ∉ q) := by
    rw [← xor_full hp hq]
    exact ⟨fun h => h.2.2, fun h => ⟨hp, hq, h⟩⟩
  rw [key, or_full hp hq]
  have bp := hp.2.2.1
  have bq := hq.2.2.1
  obtain ⟨m, rfl⟩ : ∃ m : Nat, n = m := ⟨n.toNat, by omega⟩
  have hin : ∀ x ∈ p ++ q, 0 ≤ x ∧ x < (m : Int) := fun x hx => by
    rcases List.mem_append.1 hx with h | h
    · exact bp.1 x h
    · exact bq.1 x h
  constructor
  · intro h
    have hd : (p ++ q).Nodup := by
      rw [List.nodup_append]
      refine ⟨bp.2, bq.2, fun a ha b hb e => ?_⟩
      subst e
      have hb2 := bp.1 a ha
      have := h a.toNat (by omega)
      rw [Int.toNat_of_nonneg hb2.1] at this
      exact this.1 ha hb
    have h1 := nodup_le m (p ++ q) hd hin
    have h2 : ∀ j : Nat, j < m → (j : Int) ∈ p ++ q := fun j hj => by
      rw [List.mem_append]
      by_cases hq : (j : Int) ∈ q
      · exact .inr hq
      · exact .inl ((h j (by omega)).2 hq)
    have h4 : m ≤ (p ++ q).length := by
      have hs : ((List.range m).map fun j : Nat => (j : Int)).Nodup := by
        rw [List.nodup_iff_pairwise_ne, List.pairwise_map]
        exact (List.nodup_iff_pairwise_ne.1 List.nodup_range).imp (fun hne e => hne (by omega))
      have := hs.length_le_of_subset (l₂ := p ++ q) (fun x hx => by
        obtain ⟨j, hj, rfl⟩ := List.mem_map.1 hx
        exact h2 j (List.mem_range.1 hj))
      simpa using this
    rw [List.length_append] at h1 h4
    refine ⟨by omega, fun j hj => ?_⟩
    have := h2 j (by omega)
    rwa [List.mem_append] at this
  · rintro ⟨hl, h⟩ j hj
    refine ⟨fun h1 h2 => ?_, fun h2 => (h j hj).resolve_right h2⟩
    -- the point j twice: the others would have to fill one place less
    have hcov : ∀ i : Nat, i < m → (i : Int) ∈ p ++ q.erase (j : Int) := fun i hi => by
      rw [List.mem_append]
      by_cases e : (i : Int) = j
      · left; rw [e]; exact h1
      · rcases h i (by omega) with h5 | h5
        · exact .inl h5
        · exact .inr ((List.mem_erase_of_ne e).2 h5)
    have hs : ((List.range m).map fun i : Nat => (i : Int)).Nodup := by
      rw [List.nodup_iff_pairwise_ne, List.pairwise_map]
      exact (List.nodup_iff_pairwise_ne.1 List.nodup_range).imp (fun hne e => hne (by omega))
    have := hs.length_le_of_subset (l₂ := p ++ q.erase (j : Int)) (fun x hx => by
      obtain ⟨i, hi, rfl⟩ := List.mem_map.1 hx
      exact hcov i (List.mem_range.1 hi))
    rw [List.length_append, List.length_erase_of_mem h2] at this
    simp at this
    have hql : 0 < q.length := List.length_pos_of_mem h2
    omega

theorem lst_two (n : Int) (p q : List Int) (h36 : 3 ≤ n ∧ n ≤ 6) : Lst n [p, q] ↔ Prt n p ∧ Prt n q := by
  unfold Lst
  simp
  intro _ _
  exact h36
theorem wov_lst {n : Int} {p q : List Int} (h : Wov n p q) : Lst n [p, q] := (lst_two n p q h.1.1).2 ⟨h.1, h.2.1⟩
theorem rds_pair (w : World) (H : Nat) (Ap Aq : Option Addr) (np nq cp cq : Nat) (p q : List Int) (hp : Rd w H Ap np p) (hq : Rd w H Aq nq q) (hH : H ≤ w.heap.size) (hpc : np ≤ cp) (hpm : cp ≤ 9223372036854775807) (hqc : nq ≤ cq) (hqm : cq ≤ 9223372036854775807) :
    RdS (w.alloc (.cells #[.slice Ap np cp, .slice Aq nq cq] 23)) (w.heap.size + 1) (some ⟨w.heap.size, 0, none⟩) 2 [p, q] := by
  have hb : Below w.heap.size w (w.alloc (.cells #[.slice Ap np cp, .slice Aq nq cq] 23)) := (Below.refl _ _).alloc (Nat.le_refl _) _
  refine ⟨rfl, fun _ => ⟨w.heap.size, 0, rfl, by omega, fun k hk => ?_⟩⟩
  obtain rfl | rfl : k = 0 ∨ k = 1 := by omega
  · refine ⟨Ap, cp, ?_, ?_, by show p.length ≤ cp; rw [hp.len]; exact hpc, hpm⟩
    · show _ = some (Value.slice Ap p.length cp)
      rw [hp.len, cell_of_row _ w.heap.size _ _ _ _ (heap_alloc_new w _)]
      rfl
    · show Rd _ _ Ap p.length p
      rw [hp.len]
      exact (hp.below (hb.mono hH)).more (by omega)
  · refine ⟨Aq, cq, ?_, ?_, by show q.length ≤ cq; rw [hq.len]; exact hqc, hqm⟩
    · show _ = some (Value.slice Aq q.length cq)
      rw [hq.len, cell_of_row _ w.heap.size _ _ _ _ (heap_alloc_new w _)]
      rfl
    · show Rd _ _ Aq q.length q
      rw [hq.len]
      exact (hq.below (hb.mono hH)).more (by omega)

theorem oRow_less {w : World} {B B' : Nat} {e : TypeId} {m k : Nat} {v : Value} {xs : List Value} (h : w.ownsRow B e m v k xs) (hB : B' ≤ B) : w.ownsRow B' e m v k xs := by
  refine ⟨h.1, ?_⟩
  rcases h.2 with e | ⟨g, cap, cur, e, hg, rest⟩
  · exact .inl e
  · exact .inr ⟨g, cap, cur, e, by omega, rest⟩
def wovL (n : Int) (p q : List Int) : List (List Int) := if Wov n p q then [p, q] else []
theorem wovL_yes {n : Int} {p q : List Int} (h : Wov n p q) : wovL n p q = [p, q] := by rw [wovL, if_pos h]
theorem wovL_no {n : Int} {p q : List Int} (h : ¬ Wov n p q) : wovL n p q = [] := by rw [wovL, if_neg h]

end Go.Proofs.YtmfilnpbkonfaabDoor

namespace Go.Proofs.YtmfilnpbkonfaabDoor
open Go.ChangeShapes Go.WideShapes Go.ChangeAt Go.RowKit

end Go.Proofs.YtmfilnpbkonfaabDoor

namespace Go.Proofs.YtmfilnpbkonfaabDoor
open Go.ChangeShapes Go.WideShapes Go.ChangeAt Go.RowKit


theorem mask_pos {n : Int} {p : List Int} (h : Prt n p) : 0 < maskN p := by
  have hl := h.len.1
  have hm := getD_mem p 0 (by omega)
  have hb := h.bd _ hm
  have := mask_at h (p.getD 0 0).toNat
  rw [Int.toNat_of_nonneg hb.1, decide_eq_true hm] at this
  rcases Nat.eq_zero_or_pos (maskN p) with e | e
  · rw [e] at this; simp at this
  · exact e
theorem mask_pow {n : Int} {p : List Int} (h : Prt n p) : maskN p < 2 ^ n.toNat := by
  have h3 := h.1
  exact Nat.lt_pow_two_of_testBit _ fun j hj => mask_fits h j (by omega)

theorem pick_step (s : Nat) (C : List Int) (k : Nat) (hk : k < C.length) : pickN s (C.take (k + 1)) = if hasN s (C.getD k 0) then pickN s (C.take k) ++ [C.getD k 0] else pickN s (C.take k) := by
  unfold pickN
  rw [List.take_succ_eq_append_getElem hk, List.filter_append]
  simp only [List.getD, List.getElem?_eq_getElem hk, Option.getD_some, List.filter_cons, List.filter_nil]
  split <;> simp
theorem pick_len (s : Nat) (C : List Int) (k : Nat) : (pickN s (C.take k)).length ≤ k := by
  have := List.length_filter_le (hasN s) (C.take k)
  rw [List.length_take] at this
  unfold pickN; omega

end Go.Proofs.YtmfilnpbkonfaabDoor

namespace Go.Proofs.YtmfilnpbkonfaabDoor

/-- Whether a point follows the place i of a ring that is in the set, that place's own not. -/
def begs (p : Int → Bool) (l : List Int) (i : Nat) : Bool := !p (l.getD i 0) && p (l.getD ((i + 1) % l.length) 0)
/-- Whether the place i is the last one of an arc. -/
def fins (p : Int → Bool) (l : List Int) (i : Nat) : Bool := p (l.getD i 0) && !p (l.getD ((i + 1) % l.length) 0)
/-- The places where arcs begin, found in the first k steps round. -/
def runP (p : Int → Bool) (l : List Int) (k : Nat) : List Nat := ((List.range k).filter (begs p l)).map fun i => (i + 1) % l.length
/-- How many arcs. -/
def runN (p : Int → Bool) (l : List Int) : Nat := (runP p l l.length).length
theorem runP_zero (p : Int → Bool) (l : List Int) : runP p l 0 = [] := rfl
theorem runP_yes {p : Int → Bool} {l : List Int} {k : Nat} (h : begs p l k = true) : runP p l k ++ [(k + 1) % l.length] = runP p l (k + 1) := by
  unfold runP
  rw [List.range_succ, List.filter_append, List.map_append]
  simp [h]
theorem runP_no {p : Int → Bool} {l : List Int} {k : Nat} (h : begs p l k = false) : runP p l (k + 1) = runP p l k := by
  unfold runP
  rw [List.range_succ, List.filter_append, List.map_append]
  simp [h]
theorem runP_len (p : Int → Bool) (l : List Int) (k : Nat) : (runP p l k).length ≤ k := by
  have := List.length_filter_le (begs p l) (List.range k)
  simp only [List.length_range] at this
  simpa [runP] using this
theorem runN_le (p : Int → Bool) (l : List Int) : runN p l ≤ l.length := runP_len p l _
theorem runP_step (p : Int → Bool) (l : List Int) (k : Nat) : (runP p l (k + 1)).length = (runP p l k).length + if begs p l k then 1 else 0 := by
  cases h : begs p l k
  · rw [runP_no h]; simp
  · rw [← runP_yes h]; simp
theorem runP_mem {p : Int → Bool} {l : List Int} {k j : Nat} (hk : k ≤ l.length) (h : j ∈ runP p l k) : j < l.length ∧ p (l.getD j 0) = true ∧ ∃ i, i < l.length ∧ (i + 1) % l.length = j ∧ p (l.getD i 0) = false := by
  simp only [runP, List.mem_map, List.mem_filter, List.mem_range] at h
  obtain ⟨i, ⟨hi, hb⟩, rfl⟩ := h
  simp only [begs, Bool.and_eq_true, Bool.not_eq_true'] at hb
  exact ⟨Nat.mod_lt _ (by omega), hb.2, i, by omega, rfl, hb.1⟩

/-- The last of the values at places that are asked for. -/
def lastV (f : Nat → Bool) (v : Nat → Int) : Nat → Int
  | 0 => 0
  | k + 1 => if f k then v k else lastV f v k
theorem lastV_one (f : Nat → Bool) (v : Nat → Int) (i n : Nat) (hi : i < n) (hf : f i = true) (h : ∀ j, j < n → f j = true → j = i) : lastV f v n = v i := by
  induction n with
  | zero => omega
  | succ n ih =>
    unfold lastV
    cases hn : f n
    · simp only [Bool.false_eq_true, if_false]
      have : i ≠ n := fun e => by subst e; rw [hf] at hn; cases hn
      exact ih (by omega) fun j hj hfj => h j (by omega) hfj
    · simp only [if_true]
      rw [h n (by omega) hn]

/-- What places alone tell: as many as n, in the set as the number s tells. -/
def begB (n s i : Nat) : Bool := !s.testBit i && s.testBit ((i + 1) % n)
def finB (n s i : Nat) : Bool := s.testBit i && !s.testBit ((i + 1) % n)
/-- A ring's places that are in a set, as a number. -/
def bitsL (p : Int → Bool) : List Int → Nat
  | [] => 0
  | x :: l => (if p x then 1 else 0) + 2 * bitsL p l
theorem bitsL_bit (p : Int → Bool) : ∀ (l : List Int) (i : Nat), i < l.length → (bitsL p l).testBit i = p (l.getD i 0)
  | [], i, h => by simp at h
  | x :: l, 0, _ => by
    unfold bitsL
    rw [Nat.testBit_zero, show (x :: l).getD 0 0 = x from rfl]
    cases h : p x
    · rw [if_neg (by simp)]; simp
    · rw [if_pos rfl]; simp
  | x :: l, i + 1, h => by
    unfold bitsL
    have e : ((if p x then 1 else 0) + 2 * bitsL p l) / 2 = bitsL p l := by split <;> omega
    rw [Nat.testBit_succ, e]
    rw [bitsL_bit p l i (by simpa using h)]
    simp [List.getD]
theorem bitsL_lt (p : Int → Bool) : ∀ l : List Int, bitsL p l < 2 ^ l.length
  | [] => by simp [bitsL]
  | x :: l => by
    have := bitsL_lt p l
    simp only [bitsL, List.length_cons, Nat.pow_succ]
    split <;> omega
theorem one_end_key : ∀ n : Fin 8, ∀ s : Fin 128, s.val < 2 ^ n.val → ((List.range n.val).filter (begB n.val s.val)).length = 1 →
    ((List.range n.val).filter (finB n.val s.val)).length = 1 := by decide +kernel
theorem filter_one {n : Nat} {f : Nat → Bool} (h : ((List.range n).filter f).length = 1) {i j : Nat} (hi : i < n) (hj : j < n) (fi : f i = true) (fj : f j = true) : i = j := by
  obtain ⟨a, ha⟩ := List.length_eq_one_iff.1 h
  have h1 : i ∈ (List.range n).filter f := by simp [hi, fi]
  have h2 : j ∈ (List.range n).filter f := by simp [hj, fj]
  rw [ha] at h1 h2
  simp at h1 h2
  omega
theorem begs_bits (p : Int → Bool) (l : List Int) (i : Nat) (hi : i < l.length) : begs p l i = begB l.length (bitsL p l) i ∧ fins p l i = finB l.length (bitsL p l) i := by
  have h2 : (i + 1) % l.length < l.length := Nat.mod_lt _ (by omega)
  unfold begs begB fins finB
  rw [bitsL_bit p l i hi, bitsL_bit p l _ h2]
  exact ⟨rfl, rfl⟩
theorem filter_range_congr {n : Nat} {f g : Nat → Bool} (h : ∀ i, i < n → f i = g i) : (List.range n).filter f = (List.range n).filter g :=
  List.filter_congr fun i hi => h i (List.mem_range.1 hi)
/-- An arc begins once, and ends once. -/
theorem one_begin {p : Int → Bool} {l : List Int} (h : runN p l = 1) {i j : Nat} (hi : i < l.length) (hj : j < l.length) (fi : begs p l i = true) (fj : begs p l j = true) : i = j := by
  refine filter_one (f := begs p l) (n := l.length) ?_ hi hj fi fj
  simpa [runN, runP] using h
theorem one_end {p : Int → Bool} {l : List Int} (h7 : l.length ≤ 7) (h : runN p l = 1) {i j : Nat} (hi : i < l.length) (hj : j < l.length) (fi : fins p l i = true) (fj : fins p l j = true) : i = j := by
  have h1 : ((List.range l.length).filter (begB l.length (bitsL p l))).length = 1 := by
    rw [← filter_range_congr fun i hi => (begs_bits p l i hi).1]
    simpa [runN, runP] using h
  have hb := bitsL_lt p l
  have h128 : bitsL p l < 128 := Nat.lt_of_lt_of_le hb (Nat.pow_le_pow_right (by omega) h7 : 2 ^ l.length ≤ 2 ^ 7)
  have h2 := one_end_key ⟨l.length, by omega⟩ ⟨bitsL p l, h128⟩ hb h1
  refine filter_one (f := fins p l) (n := l.length) ?_ hi hj fi fj
  rw [filter_range_congr fun i hi => (begs_bits p l i hi).2]
  exact h2
/-- The first point of an arc, and the last one. -/
def firstA (p : Int → Bool) (l : List Int) : Int := lastV (begs p l) (fun i => l.getD ((i + 1) % l.length) 0) l.length
def finA (p : Int → Bool) (l : List Int) : Int := lastV (fins p l) (fun i => l.getD i 0) l.length
theorem firstA_run {p : Int → Bool} {l : List Int} (h : runN p l = 1) : ∃ j, runP p l l.length = [j] ∧ j < l.length ∧ p (l.getD j 0) = true ∧ firstA p l = l.getD j 0 ∧ ∃ d, d < l.length ∧ (j + d) % l.length ≠ j ∧ p (l.getD ((j + d) % l.length) 0) = false := by
  obtain ⟨j, hj⟩ := List.length_eq_one_iff.1 h
  have hm : j ∈ runP p l l.length := by rw [hj]; simp
  have hm' := hm
  simp only [runP, List.mem_map, List.mem_filter, List.mem_range] at hm'
  obtain ⟨i, ⟨hi, hb⟩, rfl⟩ := hm'
  obtain ⟨h1, h2, _⟩ := runP_mem (Nat.le_refl _) hm
  refine ⟨_, hj, h1, h2, lastV_one _ _ i _ hi hb fun j' hj' hb' => one_begin h hj' hi hb' hb, l.length - 1, by omega, ?_, ?_⟩
  all_goals
    have e : ((i + 1) % l.length + (l.length - 1)) % l.length = i := by
      rcases Nat.lt_or_ge (i + 1) l.length with hlt | hge
      · rw [Nat.mod_eq_of_lt hlt, show i + 1 + (l.length - 1) = i + l.length by omega, Nat.add_mod_right, Nat.mod_eq_of_lt hi]
      · have : i + 1 = l.length := by omega
        rw [this, Nat.mod_self, Nat.zero_add, Nat.mod_eq_of_lt (by omega)]
        omega
    rw [e]
  · intro e'
    simp only [begs, Bool.and_eq_true, Bool.not_eq_true'] at hb
    rw [← e'] at h2
    rw [hb.1] at h2
    cases h2
  · simp only [begs, Bool.and_eq_true, Bool.not_eq_true'] at hb
    exact hb.1
theorem finA_end {p : Int → Bool} {l : List Int} (h7 : l.length ≤ 7) (h : runN p l = 1) {j : Nat} (hj : j < l.length) (h1 : p (l.getD j 0) = true) (h2 : p (l.getD ((j + 1) % l.length) 0) = false) : finA p l = l.getD j 0 :=
  lastV_one _ _ j _ hj (by rw [fins, h1, h2]; rfl) fun i hi hf => one_end h7 h hi hj hf (by rw [fins, h1, h2]; rfl)
end Go.Proofs.YtmfilnpbkonfaabDoor

namespace Go.Proofs.YtmfilnpbkonfaabDoor
open Go.ChangeShapes Go.WideShapes Go.ChangeAt Go.RowKit

/-- What a round of the loop over a ring wants of the next place. -/
theorem next_place (n k : Nat) (h1 : 1 ≤ n) (h7 : n ≤ 7) (hk : k < n) : IntKind.i64.wrap ((k : Int) + 1) = (k : Int) + 1 ∧ Int.tmod ((k : Int) + 1) (n : Int) = ((k : Int) + 1) % (n : Int) ∧ (((k : Int) + 1) % (n : Int)).toNat = (k + 1) % n ∧ 0 ≤ ((k : Int) + 1) % (n : Int) ∧ ((k : Int) + 1) % (n : Int) < (n : Int) ∧ IntKind.i64.wrap (((k : Int) + 1) % (n : Int)) = ((k : Int) + 1) % (n : Int) := by
  have hmi : ((k : Int) + 1) % (n : Int) < (n : Int) := Int.emod_lt_of_pos _ (by omega)
  have hmo : 0 ≤ ((k : Int) + 1) % (n : Int) := Int.emod_nonneg _ (by omega)
  refine ⟨IntWalk.i64_in _ (by omega), Int.tmod_eq_emod_of_nonneg (by omega), ?_, hmo, hmi, IntWalk.i64_in _ (by omega)⟩
  have e : ((k : Int) + 1) % (n : Int) = (((k + 1) % n : Nat) : Int) := by simp
  rw [e, Int.toNat_natCast]

set_option maxRecDepth 10000 in
set_option maxHeartbeats 1000000 in
theorem runS_any (A : Option Addr) (n c H : Nat) (l : List Int) (s : Nat) (w : World) (h : Rd w H A n l) (h1 : 1 ≤ n) (h7 : n ≤ 7) (hp : ∀ x ∈ l, 0 ≤ x ∧ x < 7) (hs : s < 128) :
    Calls Tryd.prog 84 #[.slice A n c, .int .i64 (s : Int)] w fun e w' => e = .returned (.int .i64 (runN (hasN s) l : Int)) ∧ w = w' := by
  have HL := Lib.hid h.len
  have HP := Lib.hid (fun k (hk : k < n) => hp _ (getD_mem l k (by rw [HL.out]; exact hk)))
  have HB := Lib.hid (fun x : Int => shr_bit s x hs)
  have HST := Lib.hid (fun k => runP_step (hasN s) l k)
  have HLN := Lib.hid (fun k => runP_len (hasN s) l k)
  have HBG : Hid (∀ k, begs (hasN s) l k = (!hasN s (l.getD k 0) && hasN s (l.getD ((k + 1) % n) 0))) := fun k => by rw [begs, HL.out]
  have HRN : Hid (runN (hasN s) l = (runP (hasN s) l n).length) := by rw [Hid, runN, HL.out]
  rw [HRN.out]
  obtain ⟨b, o, rfl, hbH, hcs⟩ := h.at_ (by omega)
  have HCS := Lib.hid hcs
  clear h hp hcs HRN
  obtain ⟨R, hR⟩ : ∃ R : Nat → Nat, R = fun k => (runP (hasN s) l k).length := ⟨_, rfl⟩
  have HST' : Hid (∀ k, R (k + 1) = R k + if begs (hasN s) l k then 1 else 0) := by rw [hR]; exact HST.out
  have HLN' : Hid (∀ k, R k ≤ k) := by rw [hR]; exact HLN.out
  have HR0 : Hid (R 0 = 0) := by rw [hR]; rfl
  rw [show (runP (hasN s) l n).length = R n by rw [hR]]
  clear hR HST HLN
  go_enter Tryd.func84, Tryd.ntmps84
  go_wp2
  go_loop [5, 6] (fun v i => ∃ k : Nat, k ≤ n ∧ v = .int .i64 (R k : Int) ∧ i = .int .i64 k) (fun _ i => n - (intOf i).toNat)
  case atStart => exact ⟨0, Nat.zero_le _, by rw [HR0.out]; rfl, rfl⟩
  case round =>
    obtain ⟨k, hk, rfl, rfl⟩ := hrel
    by_cases hlt : k < n
    · have hc := HCS.out k hlt
      have hmod : (k + 1) % n < n := Nat.mod_lt _ (by omega)
      have hc1 := HCS.out ((k + 1) % n) hmod
      have hx := HP.out k hlt
      have hy := HP.out ((k + 1) % n) hmod
      have hst := HST'.out k
      rw [HBG.out] at hst
      have hl1 := HLN'.out k
      have hl2 := HLN'.out (k + 1)
      obtain ⟨hw1, htm, htn, hmo, hmi, hw2⟩ := next_place n k h1 h7 hlt
      have hnz : ¬ n = 0 := by omega
      generalize l.getD k 0 = x at *
      generalize l.getD ((k + 1) % n) 0 = y at *
      have hbx := (HB.out x).2
      have hby := (HB.out y).1
      have hx0 := hx.1
      have hy0 := hy.1
      have hx7 := hx.2
      have hy7 := hy.2
      clear hx hy
      obtain ⟨r1, hr1⟩ : ∃ r1, r1 = R (k + 1) := ⟨_, rfl⟩
      rw [← hr1] at hst hl2
      have HR1 := Lib.hid hr1
      obtain ⟨r, hr⟩ : ∃ r, r = R k := ⟨_, rfl⟩
      rw [← hr] at hst hl1 ⊢
      clear hr1 hr
      cases hX : hasN s x <;> cases hY : hasN s y
      all_goals
        rw [hX] at hbx hst
        rw [hY] at hby hst
        simp only [Bool.not_true, Bool.not_false, Bool.and_true, Bool.and_false, if_true, Bool.false_eq_true, if_false, Nat.add_zero] at hbx hby hst
        have HS := Lib.hid hst
        clear hst hX hY
        go_wp2_with fail
        go_round
        case rel => exact ⟨k + 1, by omega, by rw [← HR1.out, HS.out]; try go_num, by go_num⟩
        case measure => simp [intOf]; omega
    · obtain rfl : k = n := by omega
      go_wp2
      go_ret
      exact ⟨rfl, rfl⟩

theorem inQ7 (n a b : Int) (r : Bool) (h : (decide (a ≤ n) && decide (n ≤ b)) = r) (w : World) : Calls Tryd.prog 58 #[.int .i64 n, .int .i64 a, .int .i64 b] w fun e w' => e = .returned (.bool r) ∧ w = w' := by
  subst h
  exact in_any n a b w
/-- A ring and a set of its points. -/
def SetL (l : List Int) (s : Int) : Prop := Ring l ∧ 0 ≤ s ∧ s ≤ 2 ^ l.length - 1
instance (l : List Int) (s : Int) : Decidable (SetL l s) := inferInstanceAs (Decidable (_ ∧ _))
def setB (l : List Int) (s : Int) : Bool := decide (SetL l s)
theorem set_yes {l : List Int} {s : Int} (h : SetL l s) : setB l s = true := by simpa [setB] using h
theorem set_no {l : List Int} {s : Int} (h : ¬ SetL l s) : setB l s = false := by simpa [setB] using h
theorem SetL.nat {l : List Int} {s : Int} (h : SetL l s) : ∃ k : Nat, s = (k : Int) ∧ k < 2 ^ l.length ∧ k < 128 := by
  have h1 := h.2.2
  have h2 := h.2.1
  have e : ((2 ^ l.length : Nat) : Int) = 2 ^ l.length := by simp
  have h3 : s.toNat < 2 ^ l.length := by omega
  exact ⟨s.toNat, by omega, h3, fits _ _ h.1.1.2.1 h3⟩
theorem SetL.bd {l : List Int} {s : Int} (h : SetL l s) : ∀ x ∈ l, 0 ≤ x ∧ x < 7 := fun x hx => by
  have := h.1.1.2.2.1 x hx
  have := h.1.1.2.1
  omega

theorem setS7_any (A : Option Addr) (n c H : Nat) (l : List Int) (s : Int) (w : World) (h : Rd w H A n l) (hn : n ≤ 1048576) :
    Calls Tryd.prog 34 #[.slice A n c, .int .i64 s] w fun e w' => e = .returned (.bool (setB l s)) ∧ w = w' := by
  have HL := Lib.hid h.len
  have HRI := Lib.hid (ringS_any A n c H l w h hn)
  by_cases hr : Ring l
  · rw [ring_yes hr] at HRI
    have h3 : 3 ≤ n := by rw [← HL.out]; exact hr.1.1
    have h7 : n ≤ 7 := by rw [← HL.out]; exact hr.1.2.1
    have HI := Lib.hid (fun W => inQ7 s 0 (2 ^ n - 1) (setB l s) (by
      rw [setB, ← Bool.decide_and, decide_eq_decide, SetL, HL.out]
      exact ⟨fun h => ⟨hr, h⟩, fun h => h.2⟩) W)
    clear h hr
    generalize setB l s = r at *
    obtain rfl | rfl | rfl | rfl | rfl : n = 3 ∨ n = 4 ∨ n = 5 ∨ n = 6 ∨ n = 7 := by omega
    all_goals
      simp only [Int.reducePow, Int.reduceSub] at HI
      go_enter Tryd.func34, Tryd.ntmps34
      go_wp2_with (first
        | (go_at_call 45; refine HRI.out.mono ?_; rintro e w' ⟨rfl, rfl⟩)
        | (go_at_call 58; refine (HI.out _).mono ?_; rintro e w' ⟨rfl, rfl⟩))
      go_ret
      exact ⟨rfl, rfl⟩
  · rw [ring_no hr] at HRI
    rw [set_no (fun hh => hr hh.1)]
    clear h hr
    go_enter Tryd.func34, Tryd.ntmps34
    go_wp2_with (go_at_call 45; refine HRI.out.mono ?_; rintro e w' ⟨rfl, rfl⟩)
    go_ret
    exact ⟨rfl, rfl⟩

/-- Whether a set is an arc of a ring; how many arcs it comes apart into. -/
def arcB (l : List Int) (s : Int) : Bool := setB l s && decide (runN (hasN s.toNat) l = 1)
def runR (l : List Int) (s : Int) : Int := if setB l s then (runN (hasN s.toNat) l : Int) else 0

end Go.Proofs.YtmfilnpbkonfaabDoor
