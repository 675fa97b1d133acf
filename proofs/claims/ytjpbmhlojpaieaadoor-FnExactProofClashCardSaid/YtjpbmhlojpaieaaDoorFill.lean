/- A slice of slices that the call fills row by row; its copy, its marking, the check of its marks. -/
import Derived.Test.YtjpbmhlojpaieaaDoorMatL
namespace Go.Proofs.YtjpbmhlojpaieaaDoor
open Go.ChangeShapes Go.WideShapes Go.ChangeAt Go.RowKit

/-- Block B has n cells for rows; the first k are the call's own, and hold the rows of L. -/
def Fill (w : World) (B n : Nat) (L : List (List Int)) (k : Nat) : Prop :=
  ∃ cur, ∃ G : Nat → Nat, w.heap[B]? = some (.cells cur 22 (0, 0)) ∧ cur.size = n ∧
    ∀ j, j < k → cur[j]? = some (.slice (some ⟨G j, 0, none⟩) (rowK L j).length (rowK L j).length) ∧ B < G j ∧ Own w (B + 1) (.slice (some ⟨G j, 0, none⟩) (rowK L j).length (rowK L j).length) (rowK L j) ∧ ∀ i, i < j → G i ≠ G j

section
variable {w w' : World} {B n k D : Nat} {L : List (List Int)}
theorem Fill.lt (h : Fill w B n L k) : B < w.heap.size := by
  obtain ⟨cur, G, hg, _⟩ := h
  exact (Array.getElem?_eq_some_iff.1 hg).1
theorem own_same {v : Value} {l : List Int} (h : Own w B v l) (hk : ∀ k, v.ownBlock = some k → w'.heap[k]? = w.heap[k]?) : Own w' B v l := by
  refine ⟨h.1, ?_⟩
  rcases h.2 with e | ⟨g, cap, cur, rfl, hb, hg, rest⟩
  · exact .inl e
  · exact .inr ⟨g, cap, cur, rfl, hb, (hk g rfl).trans hg, rest⟩
theorem Fill.below (h : Fill w B n L k) (hb : Below D w w') (hD : w.heap.size ≤ D) : Fill w' B n L k := by
  have hlt := h.lt
  obtain ⟨cur, G, hg, hs, hr⟩ := h
  refine ⟨cur, G, (hb.block B (by omega)).trans hg, hs, fun j hj => ?_⟩
  obtain ⟨h1, h2, h3, h4⟩ := hr j hj
  exact ⟨h1, h2, own_same h3 fun i hi => hb.block i (by have := (h3.lt i hi).2; omega), h4⟩
theorem Fill.cell (h : Fill w B n L k) {j : Nat} (hj : j < n) : ∃ u, w.cell? ⟨B, j, none⟩ = some u := by
  obtain ⟨cur, G, hg, hs, hr⟩ := h
  refine ⟨cur[j]'(by omega), ?_⟩
  rw [cell_of_row w B j cur _ _ hg]
  exact Array.getElem?_eq_getElem (by omega)
theorem Fill.frozen (h : Fill w B n L k) (j : Nat) : w.frozen? ⟨B, j, none⟩ = false := by
  obtain ⟨cur, G, hg, hs, hr⟩ := h
  exact frozen_of_row w B j cur _ hg
/-- A row more: it lies in a block that was not there. -/
theorem Fill.step (h : Fill w B n L k) (hb : Below w.heap.size w w') {g m : Nat} (hg : w.heap.size ≤ g) (hm : m = (rowK L k).length) (ho : Own w' (B + 1) (.slice (some ⟨g, 0, none⟩) m m) (rowK L k)) (hk : k < n) :
    Fill (w'.setCell ⟨B, k, none⟩ (.slice (some ⟨g, 0, none⟩) m m)) B n L (k + 1) := by
  subst hm
  have hlt := h.lt
  have h' := h.below hb (Nat.le_refl _)
  obtain ⟨cur, G, hgB, hs, hr⟩ := h
  refine ⟨cur.setIfInBounds k (.slice (some ⟨g, 0, none⟩) (rowK L k).length (rowK L k).length), fun j => if j = k then g else G j, heap_setCell_same w' B k cur _ _ ((hb.block B hlt).trans hgB), by simpa using hs, fun j hj => ?_⟩
  have far : ∀ i, i ≠ B → (w'.setCell ⟨B, k, none⟩ (.slice (some ⟨g, 0, none⟩) (rowK L k).length (rowK L k).length)).heap[i]? = w'.heap[i]? := fun i hi => Below.heap_setCell _ _ _ _ hi
  have hG : ∀ j, j < k → G j < w.heap.size := fun j hj => ((hr j hj).2.2.1.lt _ rfl).2
  by_cases e : j = k
  · subst e
    simp only [if_true]
    refine ⟨by simp [hs, hk], by omega, own_same ho fun i hi => far i ?_, fun i hi => ?_⟩
    · simp [Value.ownBlock] at hi; omega
    · rw [if_neg (by omega)]; have := hG i hi; omega
  · have hjk : j < k := by omega
    obtain ⟨h1, h2, h3, h4⟩ := hr j hjk
    simp only [if_neg e]
    refine ⟨?_, h2, own_same h3 fun i hi => ?_, fun i hi => ?_⟩
    · rw [Array.getElem?_setIfInBounds, if_neg (by omega)]; exact h1
    · have hi' : i = G j := by simp [Value.ownBlock] at hi; omega
      subst hi'
      rw [far _ (by omega), hb.block _ (hG j hjk)]
    · rw [if_neg (by omega)]; exact h4 i hi
theorem Fill.own (h : Fill w B n L n) (hL : L.length = n) (hlen : ∀ j, j < n → (rowK L j).length ≤ 9223372036854775807) : OwnS w B w.heap.size (.slice (some ⟨B, 0, none⟩) n n) L := by
  have hlt := h.lt
  obtain ⟨cur, G, hg, hs, hr⟩ := h
  subst hL
  refine .inr ⟨B, L.length, cur, fun j => .slice (some ⟨G j, 0, none⟩) (rowK L j).length (rowK L j).length, rfl, Nat.le_refl _, hlt, hg, fun j hj => ?_, fun i j hi hj hij k hk => ?_⟩
  · obtain ⟨h1, h2, h3, h4⟩ := hr j hj
    have h2' := (own_less h3 (by omega : B ≤ B + 1)).two
    exact ⟨h1, h2', by simp [Value.ownBlock]; omega, _, _, rfl, Nat.le_refl _, hlen j hj⟩
  · simp [Value.ownBlock] at hk ⊢
    subst hk
    rcases Nat.lt_or_gt_of_ne hij with hlt' | hlt'
    · exact fun e => (hr j hj).2.2.2 i hlt' e.symm
    · exact fun e => (hr i hi).2.2.2 j hlt' e
theorem Fill.made {cur : Array Value} (hg : w.heap[B]? = some (.cells cur 22 (0, 0))) (hs : cur.size = n) : Fill w B n L 0 := ⟨cur, fun _ => 0, hg, hs, fun j hj => absurd hj (by omega)⟩
end

theorem row_info : (Tryd.prog.info? 22).map (fun i => (i.zero, i.size, i.bytes)) = some (some (.slice none 0 0), 1, 24) := by kernel_rfl

set_option maxHeartbeats 400000 in
theorem toIntSS_any (A : Option Addr) (n c H : Nat) (L : List (List Int)) (w : World) (h : RdS w H A n L) (hH : H ≤ w.heap.size) (hn : tot L ≤ 1048576) :
    Calls Tryd.prog 14 #[.slice A n c] w fun e w' => e = .returned (.slice (some ⟨w.heap.size, 0, none⟩) n n) ∧
      OwnS w' w.heap.size w'.heap.size (.slice (some ⟨w.heap.size, 0, none⟩) n n) L ∧ Below w.heap.size w w' := by
  obtain ⟨i0, hi, hz0, hz1, hz2⟩ := info_parts row_info
  have hL := h.len
  have hnb : n ≤ 1048576 := by unfold tot at hn; omega
  have HROW := Lib.hid (fun k (hk : k < n) => Nat.le_trans (row_le L k (by omega)) hn)
  have HL := Lib.hid hL
  clear hL hn
  go_enter Tryd.func14, Tryd.ntmps14
  go_wp2_with (at_make; refine wpList_make_full _ rfl _ _ 28 rfl w.heap.size 22 i0 (.slice none 0 0) 1 Tryd.underlying28 hi hz0 hz1 .i64 .i64 _ _ n rfl rfl rfl rfl (by rw [hz2]; omega) (by unfold maxLen; omega) (Nat.le_refl _) ?_)
  intro w1 hown hgrow
  have hb1 : Below w.heap.size w w1 := (Below.refl _ _).grown hgrow (Nat.le_refl _) (by simp)
  have hf1 : Fill w1 w.heap.size n L 0 := by
    rcases hown.2 with ⟨e, _⟩ | ⟨g, cap, cur, e, _, hg, _, _, hs, _⟩
    · cases e
    · injection e with e1 _ e3
      injection e1 with e1
      injection e1 with e1
      subst e1
      exact Fill.made hg (by rw [hs]; omega)
  have hr1 := h.below (hb1.mono hH)
  clear hown hgrow h
  generalize hB : w.heap.size = B at *
  have HB := Lib.hid hB
  clear hB
  go_wp2
  go_loopw [4] (fun i wr => ∃ k : Nat, k ≤ n ∧ i = .int .i64 k ∧ Hid (Fill wr B n L k) ∧ Hid (RdS wr H A n L) ∧ Below B w wr) (fun i _ => n - (intOf i).toNat)
  case atStart => exact ⟨0, Nat.zero_le _, rfl, hf1, hr1, hb1⟩
  case round =>
    obtain ⟨k, hk, rfl, hf, hrd, hbl⟩ := hrel
    clear hf1 hr1 hb1
    have HBL := Lib.hid hbl
    have hBw := hf.out.lt
    clear hbl
    by_cases hlt : k < n
    · obtain ⟨b, o, rfl, hbB, hcs⟩ := hrd.out.at_ (by omega)
      obtain ⟨Ak, ck, hc, hr, _, _⟩ := hcs k hlt
      have HC := Lib.hid (fun W (hR : Rd W H Ak (rowK L k).length (rowK L k)) (hW : H ≤ W.heap.size) => toIntS_any Ak (rowK L k).length ck (rowK L k) W (hR.more hW) (HROW.out k hlt))
      have HR := Lib.hid hr
      clear hcs hr
      obtain ⟨z, hz⟩ : ∃ z, z = (rowK L k).length := ⟨_, rfl⟩
      rw [← hz] at hc HC HR
      have HZ := Lib.hid hz
      clear hz
      go_wp2_with fail
      refine (HC.out _ HR.out (by omega)).mono ?_
      rintro e w2 ⟨rfl, ho, hb2⟩
      have hf2 := hf.out.below hb2 (Nat.le_refl _)
      obtain ⟨old, hcell⟩ := hf2.cell hlt
      have hfr := hf2.frozen k
      have HF := Lib.hid (hf.out.step hb2 (Nat.le_refl _) HZ.out (own_less ho (by omega)) hlt)
      have hs2 := hb2.size
      have HB2 := Lib.hid (HBL.out.trans (hb2.mono (by omega)))
      have HR2 := Lib.hid (hrd.out.below (hb2.mono (by omega)))
      clear ho hb2 hf2
      go_wp2
      go_roundw
      case rel => exact ⟨k + 1, by omega, by go_num, HF, Lib.hid (HR2.out.below ((Below.refl _ _).setCell (by simp; omega) _)), HB2.out.setCell (by simp) _⟩
      case measure => simp [intOf]; omega
    · go_wp2
      go_ret
      obtain rfl : k = n := by omega
      rw [HB.out]
      exact ⟨rfl, hf.out.own HL.out (fun j hj => by have := HROW.out j hj; omega), HBL.out⟩

/-- The rows, marked by numbers that go on from row to row. -/
def marksS (q : Int) (L : List (List Int)) : List (List Int) := (List.range L.length).map fun k => marks (q + sumTo L k) (rowK L k).length
def mixS (q : Int) (L : List (List Int)) (m : Nat) : List (List Int) := (List.range L.length).map fun k => if k < m then marks (q + sumTo L k) (rowK L k).length else rowK L k
theorem marksS_length (q : Int) (L : List (List Int)) : (marksS q L).length = L.length := by simp [marksS]
theorem mixS_length (q : Int) (L : List (List Int)) (m : Nat) : (mixS q L m).length = L.length := by simp [mixS]
theorem marksS_row (q : Int) (L : List (List Int)) (k : Nat) (h : k < L.length) : rowK (marksS q L) k = marks (q + sumTo L k) (rowK L k).length := by
  simp [marksS, rowK, List.getD, h]
theorem mixS_row (q : Int) (L : List (List Int)) (m k : Nat) (h : k < L.length) (hm : m ≤ k) : rowK (mixS q L m) k = rowK L k := by
  simp [mixS, rowK, List.getD, h, show ¬ k < m by omega]
theorem mixS_zero (q : Int) (L : List (List Int)) : mixS q L 0 = L := by
  apply List.ext_getElem
  · simp [mixS]
  · intro i h1 h2
    simp [mixS, rowK, List.getD, h2]
theorem mixS_full (q : Int) (L : List (List Int)) : mixS q L L.length = marksS q L := by
  unfold mixS marksS
  apply List.map_congr_left
  intro k hk
  rw [if_pos (by simpa using hk)]
theorem mixS_step (q : Int) (L : List (List Int)) (k : Nat) (_ : k < L.length) : (mixS q L k).set k (marks (q + sumTo L k) (rowK L k).length) = mixS q L (k + 1) := by
  apply List.ext_getElem
  · simp [mixS]
  · intro i h1 h2
    simp only [mixS, List.getElem_set, List.getElem_map, List.getElem_range]
    by_cases e : k = i
    · subst e; simp
    · simp only [if_neg e]
      by_cases hik : i < k
      · simp [hik, show i < k + 1 by omega]
      · simp [hik, show ¬ i < k + 1 by omega]
theorem rowK_set (L : List (List Int)) (k j : Nat) (l : List Int) (hk : k < L.length) : rowK (L.set k l) j = if j = k then l else rowK L j := by
  by_cases e : j = k
  · subst e; simp [rowK, List.getD, hk]
  · simp [rowK, List.getD, e, Ne.symm e]

section
variable {w : World} {B C : Nat} {v : Value} {L : List (List Int)}
theorem OwnS.row (h : OwnS w B C v L) {k : Nat} (hk : k < L.length) : ∃ g c A d, v = .slice (some ⟨g, 0, none⟩) L.length c ∧ w.cell? ⟨g, k, none⟩ = some (.slice A (rowK L k).length d) ∧ Own2 w B C (.slice A (rowK L k).length d) (rowK L k) ∧
    ∀ (w' : World) (l' : List Int), l'.length = (rowK L k).length → w.grownBy w' (Value.slice A (rowK L k).length d).ownBlock → Own2 w' B C (.slice A (rowK L k).length d) l' → OwnS w' B C v (L.set k l') := by
  rcases h with ⟨_, rfl⟩ | ⟨g, c, cur, V, rfl, hB, hC, hg, hr, hd⟩
  · simp at hk
  · obtain ⟨h1, h2, h3, A, d, h4, h5, h6⟩ := hr k hk
    rw [h4] at h1 h2 h3
    refine ⟨g, c, A, d, rfl, by rw [cell_of_row w g k cur _ _ hg]; exact h1, h2, fun w' l' hl hgr ho => ?_⟩
    refine .inr ⟨g, c, cur, V, by rw [List.length_set], hB, hC, (hgr.block g (Array.getElem?_eq_some_iff.1 hg).1 (fun e => h3 e.symm)).trans hg, fun j hj => ?_, fun i j hi hj => hd i j (by simpa using hi) (by simpa using hj)⟩
    rw [List.length_set] at hj
    rw [rowK_set L k j l' hk]
    by_cases e : j = k
    · subst e
      rw [if_pos rfl, h4]
      exact ⟨h1, ho, h3, A, d, by rw [hl], by omega, h6⟩
    · rw [if_neg e]
      obtain ⟨p1, p2, p3, p4⟩ := hr j hj
      exact ⟨p1, ⟨p2.1.same fun i hi => hgr.block i (p2.1.lt i hi).2 (fun e' => hd k j hk hj (Ne.symm e) i (by rw [h4]; exact e'.symm) hi), p2.2⟩, p3, p4⟩
end

end Go.Proofs.YtjpbmhlojpaieaaDoor
