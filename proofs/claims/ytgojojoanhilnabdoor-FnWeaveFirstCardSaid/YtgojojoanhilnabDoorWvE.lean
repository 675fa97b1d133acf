/- The program's reading of a list of lists, each one a part. -/
import Derived.Test.YtgojojoanhilnabDoorWA
import Derived.Test.YtgojojoanhilnabDoorPE
namespace Go.Proofs.YtgojojoanhilnabDoor
open Go.ChangeShapes Go.WideShapes Go.ChangeAt Go.RowKit

theorem part_info : (Tryd.prog.info? 52).map (fun i => (i.zero, i.size, i.bytes)) = some (some (.slice none 0 0), 1, 24) := by kernel_rfl
/-- A slice of parts of the call's own. -/
def PrtS (w : World) (B : Nat) (v : Value) (L : List (List Int)) : Prop :=
  ∃ xs : List Value, w.ownsRow B 52 1 v L.length xs ∧ ∀ k, k < L.length → ∃ vk, xs[k]? = some vk ∧ RowV w B vk (rowK L k)
section
variable {w w' : World} {B : Nat} {v : Value} {L : List (List Int)}
theorem PrtS.slice (h : PrtS w B v L) : ∃ A c, v = .slice A L.length c ∧ L.length ≤ c ∧ c ≤ 9223372036854775807 := by
  obtain ⟨xs, h1, _⟩ := h
  rcases h1.2 with ⟨e, h0⟩ | ⟨g, cap, cur, e, _, _, h2, h3, _⟩
  · exact ⟨none, 0, by rw [e, h0], by omega, by omega⟩
  · exact ⟨_, cap, e, h2, by unfold maxLen at h3; omega⟩
theorem PrtS.rd {A : Option Addr} {n c : Nat} (h : PrtS w B (.slice A n c) L) : n = L.length ∧ RdS w w.heap.size A n L := by
  obtain ⟨xs, h1, h2⟩ := h
  rcases h1.2 with ⟨e, h0⟩ | ⟨g, cap, cur, e, hB, hg, hc, hm, hs, ht⟩
  · injection e with e1 e2 e3
    subst e1; subst e2
    rw [List.eq_nil_of_length_eq_zero h0]
    exact ⟨rfl, RdS.nil⟩
  · injection e with e1 e2 e3
    subst e1; subst e2; subst e3
    refine ⟨rfl, rfl, fun _ => ⟨g, 0, rfl, (Array.getElem?_eq_some_iff.1 hg).1, fun k hk => ?_⟩⟩
    obtain ⟨vk, h3, h4, A, d, rfl, h5, h6⟩ := h2 k hk
    refine ⟨A, d, ?_, h4.rd.2, h5, h6⟩
    rw [Nat.zero_add, cell_of_row w g _ cur _ _ hg]
    rw [← ht, List.getElem?_take, if_pos (by omega)] at h3
    simpa using h3
theorem PrtS.nil (w : World) (B : Nat) : PrtS w B (.slice none 0 0) [] := ⟨[], ⟨by simp, .inl ⟨rfl, rfl⟩⟩, fun k hk => absurd hk (by simp)⟩
end
theorem part_oneCell {w : World} {B : Nat} {v : Value} {l : List Int} (h : RowV w B v l) : v.oneCell' = true := by
  obtain ⟨_, A, c, rfl, _⟩ := h
  rfl
/-- The first k parts, nothing behind. -/
def firstV (vs : List Value) (m : Nat) : List Value := vs ++ List.replicate (m - vs.length) (.slice none 0 0)
theorem firstV_set (vs : List Value) (m : Nat) (v : Value) (h : vs.length < m) : (firstV vs m).set vs.length v = firstV (vs ++ [v]) m := by
  unfold firstV
  rw [List.set_append_right _ _ (by omega), Nat.sub_self]
  obtain ⟨d, hd⟩ : ∃ d, m - vs.length = d + 1 := ⟨m - vs.length - 1, by omega⟩
  rw [hd, List.length_append, List.length_singleton, show m - (vs.length + 1) = d by omega, List.replicate_succ, List.set_cons_zero, List.append_assoc]
  rfl
theorem firstV_get (vs : List Value) (m : Nat) (h : vs.length < m) : (firstV vs m)[vs.length]? = some (.slice none 0 0) := by
  unfold firstV
  rw [List.getElem?_append_right (by omega)]
  simp [List.getElem?_replicate]
  omega
theorem firstV_full (vs : List Value) : firstV vs vs.length = vs := by simp [firstV]

set_option maxRecDepth 10000 in
set_option maxHeartbeats 1000000 in
theorem each_part (A : Option Addr) (m c H : Nat) (L : List (List Int)) (n : Int) (w : World) (h : RdS w H A m L) (hH : H ≤ w.heap.size) (hm : m ≤ 100) (hr : ∀ k, k < m → (rowK L k).length ≤ 1048576) :
    Calls Tryd.prog 42 #[.int .i64 n, .slice A m c, .func (.func 28) #[] #[]] w fun e w' => ∃ v, e = .returned (.tuple #[v, .bool (allB (prt n) L)]) ∧ PrtS w' w.heap.size v (allL (prt n) L) ∧ Below w.heap.size w w' := by
  obtain ⟨i0, hi, hz0, hz1, hz2⟩ := info_parts part_info
  have HL := Lib.hid h.len
  have HRB := Lib.hid hr
  clear hr
  go_enter Tryd.func42, Tryd.ntmps42
  go_wp2_with (at_make; refine wpList_make_full _ rfl _ _ 39 rfl w.heap.size 52 i0 (.slice none 0 0) 1 Tryd.underlying39 hi hz0 hz1 .i64 .i64 _ _ m rfl rfl rfl rfl (by rw [hz2]; omega) (by unfold maxLen; omega) (Nat.le_refl _) ?_)
  intro w1 hown hgrow
  have hb1 : Below w.heap.size w w1 := (Below.refl _ _).grown hgrow (Nat.le_refl _) (by simp)
  have hf1 : Hid (w1.ownsRow w.heap.size 52 1 (.slice (some ⟨w.heap.size, 0, none⟩) m m) m (firstV [] m)) := by
    have e : (madeCells (Value.slice none 0 0).cells m).toList = firstV [] m := by
      rw [show (Value.slice none 0 0).cells = #[Value.slice none 0 0] from rfl, toList_madeCells_one]; simp [firstV]
    first
      | (rw [Hid, ← e]; exact hown)
      | (rw [Hid]; simpa [firstV, toList_madeCells_one] using hown)
  have hr1 := Lib.hid (h.below (hb1.mono hH))
  have hBs : w.heap.size < w1.heap.size := (hf1.out.lt _ rfl).2
  clear hown hgrow h
  generalize hB : w.heap.size = B at *
  have HB := Lib.hid hB
  clear hB
  go_wp2
  go_loopw [18] (fun i wr => ∃ k : Nat, k ≤ m ∧ i = .int .i64 k ∧ ∃ vs : List Value, Hid (vs.length = k) ∧ Hid (wr.ownsRow B 52 1 (.slice (some ⟨B, 0, none⟩) m m) m (firstV vs m)) ∧ Hid (∀ j, j < k → ∃ vj, vs[j]? = some vj ∧ RowV wr (B + 1) vj (rowK L j)) ∧ Hid (AllTo (prt n) L k) ∧ Hid (RdS wr H A m L) ∧ Below B w wr ∧ B < wr.heap.size) (fun i _ => m - (intOf i).toNat)
  case atStart => exact ⟨0, Nat.zero_le _, rfl, [], rfl, hf1, fun j hj => absurd hj (by omega), fun j hj => absurd hj (by omega), hr1, hb1, hBs⟩
  case round =>
    obtain ⟨k, hk, rfl, vs, hvs, hf, hrows, hto, hrd, hbl, hBw⟩ := hrel
    clear hf1 hr1 hb1
    have HBL := Lib.hid hbl
    clear hbl
    by_cases hlt : k < m
    · obtain ⟨b, o, rfl, hbB, hcs⟩ := hrd.out.at_ (by omega)
      obtain ⟨Ak, ck, hc, hr, hz, hcm⟩ := hcs k hlt
      have HC := Lib.hid (readPart_any Ak _ ck H (rowK L k) n wr hr (by omega) (HRB.out k hlt) hz hcm)
      have HS := Lib.hid (all_no (q := prt n) (L := L) (k := k) (by rw [HL.out]; exact hlt))
      have HT := Lib.hid (allTo_step hto.out)
      have HYES := Lib.hid (fun (ht : prt n (rowK L k) = true) => prtL_yes (n := n) (l := rowK L k) (by simpa [prt] using ht))
      clear hcs hr hz hcm
      cases ht : prt n (rowK L k)
      · have T1 := Lib.hid (HS.out ht)
        rw [ht] at HC
        clear HT HS ht HYES
        generalize (rowK L k).length = z at *
        generalize prtL n (rowK L k) = l at *
        go_wp2_with fail
        refine HC.out.mono ?_
        rintro e w2 ⟨v2, rfl, hr2, hb2⟩
        have HBL2 := Lib.hid (HBL.out.trans (hb2.mono (by omega)))
        obtain ⟨A2, c2, rfl, _⟩ := hr2.2
        clear hb2 hr2
        go_wp2
        go_ret2
        exact ⟨_, by rw [T1.out.1]; rfl, by rw [T1.out.2]; exact PrtS.nil _ _, by rw [HB.out]; exact HBL2.out⟩
      · have T1 := Lib.hid (HT.out ht)
        rw [HYES.out ht, ht] at HC
        clear HT HS ht HYES
        obtain ⟨l, hl⟩ : ∃ l, l = rowK L k := ⟨_, rfl⟩
        rw [← hl] at HC hc
        have HLL := Lib.hid hl
        clear hl
        obtain ⟨z, hz⟩ : ∃ z, z = l.length := ⟨_, rfl⟩
        rw [← hz] at HC hc
        clear hz
        go_wp2_with fail
        refine HC.out.mono ?_
        rintro e w2 ⟨v2, rfl, hr2, hb2⟩
        have HBL2 := Lib.hid (HBL.out.trans (hb2.mono (by omega)))
        have HF2 : Hid (w2.ownsRow B 52 1 (.slice (some ⟨B, 0, none⟩) m m) m (firstV vs m)) := by
          rcases hf.out.2 with ⟨e, _⟩ | ⟨g, cap, cur, e, hg0, hg, rest⟩
          · cases e
          · have e' := e
            injection e with e1 _ _
            injection e1 with e1
            injection e1 with e1
            subst e1
            exact ⟨hf.out.1, .inr ⟨B, cap, cur, e', hg0, (hb2.block B hBw).trans hg, rest⟩⟩
        have HR2 := Lib.hid (hrd.out.below (hb2.mono (by omega)))
        have HRO2 : Hid (∀ j, j < k + 1 → ∃ vj, (vs ++ [v2])[j]? = some vj ∧ RowV w2 (B + 1) vj (rowK L j)) := fun j hj => by
          rcases Nat.lt_succ_iff_lt_or_eq.1 hj with hj | rfl
          · obtain ⟨vj, h1, h2⟩ := hrows.out j hj
            exact ⟨vj, by rw [List.getElem?_append_left (by rw [hvs.out]; exact hj)]; exact h1, h2.below5 hb2⟩
          · refine ⟨v2, by rw [List.getElem?_append_right (by rw [hvs.out]; omega)]; simp [hvs.out], ?_⟩
            rw [← HLL.out]
            exact hr2.less (by omega)
        have h1c := part_oneCell hr2
        have hs2 := hb2.size
        obtain ⟨A2, c2, rfl, _⟩ := hr2.2
        clear hb2 hr2 hf hrows hrd HC
        have hst := HF2.out.stored k (.slice A2 l.length c2)
        have hvl : vs.length < m := by rw [hvs.out]; exact hlt
        have e1 := firstV_set vs m (.slice A2 l.length c2) hvl
        have e2 := firstV_get vs m hvl
        rw [hvs.out] at e1 e2
        rw [e1] at hst
        have hcell : w2.cell? ⟨B, k, none⟩ = some (.slice none 0 0) := by
          rw [HF2.out.cellAt k (by omega)]; exact e2
        have hfr : w2.frozen? ⟨B, k, none⟩ = false := HF2.out.frozenAt _
        have HST := Lib.hid hst
        clear hst e1 e2 HF2
        go_wp2
        go_roundw
        case rel =>
          refine ⟨k + 1, by omega, by go_num, vs ++ [.slice A2 l.length c2], by simp [Hid, hvs.out], Lib.hid HST.out.1, ?_, T1, ?_, ?_, ?_⟩
          · intro j hj
            obtain ⟨vj, h1, h2⟩ := HRO2.out j hj
            exact ⟨vj, h1, h2.grown5 HST.out.2 (by omega)⟩
          · exact Lib.hid (HR2.out.below ((Below.refl H _).grown HST.out.2 (by omega) (by simp; omega)))
          · exact HBL2.out.grown HST.out.2 (by omega) (by simp)
          · have := HST.out.2.size; omega
        case measure => simp [intOf]; omega
    · obtain rfl : k = m := by omega
      have hto' := hto.out
      rw [← HL.out] at hto'
      have T1 := Lib.hid (all_yes (allTo_all hto'))
      clear hto'
      go_wp2
      go_ret2
      refine ⟨_, by rw [T1.out.1]; rfl, ?_, by rw [HB.out]; exact HBL.out⟩
      rw [T1.out.2, HB.out]
      refine ⟨vs, ?_, fun j hj => ?_⟩
      · have := hf.out
        rw [← hvs.out, firstV_full] at this
        rw [HL.out, ← hvs.out]; exact this
      · obtain ⟨vj, h1, h2⟩ := hrows.out j (by rw [← HL.out]; exact hj)
        exact ⟨vj, h1, h2.less (by omega)⟩
end Go.Proofs.YtgojojoanhilnabDoor
