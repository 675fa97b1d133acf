/- A ring without its greatest point: the program's array, the model's list. -/
import Derived.Test.YtgjgpnmldlnmgaaBack
import Derived.Test.YtgjgpnmldlnmgaaNum
import Derived.StillTailTactics
import Derived.Laws.CopyOwn
namespace Go.Proofs.Ytgjgpnmldlnmgaa
open Go.ChangeShapes Go.WideShapes Go.ChangeAt Go.RowKit

/-- The list without its greatest point. -/
def dropL (l : List Int) : List Int := l.filter fun x => x != (l.length : Int) - 1
theorem dropL_eq (l : List Int) (h : Tell l) : dropL l = l.take (l.idxOf ((l.length : Int) - 1)) ++ l.drop (l.idxOf ((l.length : Int) - 1) + 1) := by
  unfold dropL
  rw [← h.2.2.2.erase_eq_filter, List.erase_eq_eraseIdx_of_idxOf, List.eraseIdx_eq_take_drop_succ]
  rfl
theorem top_in (l : List Int) (h : Tell l) : ((l.length : Int) - 1) ∈ l := h.has (by have := h.1; omega) (by omega)
theorem dropL_length (l : List Int) (h : Tell l) : (dropL l).length = l.length - 1 := by
  have := List.idxOf_lt_length_of_mem (top_in l h)
  rw [dropL_eq l h]
  simp; omega
theorem dropL_pos (l : List Int) (h : Tell l) : ∀ x ∈ dropL l, 0 ≤ x := fun x hx => h.pos x (List.mem_filter.1 hx).1
theorem pad_drop (l : List Int) (h : Tell l) : ((padR l).take (l.idxOf ((l.length : Int) - 1)) ++ ((padR l).drop (l.idxOf ((l.length : Int) - 1) + 1) ++ (padR l).drop 6)).set 6 (-1) = padR (dropL l) := by
  have hp := List.idxOf_lt_length_of_mem (top_in l h)
  have h7 := h.2.1
  rw [dropL_eq l h]
  generalize l.idxOf ((l.length : Int) - 1) = p at *
  have hl := padR_length l h7
  have e6 : (padR l).drop 6 = [(padR l).getD 6 0] := by
    rw [List.drop_eq_getElem_cons (by omega), List.drop_of_length_le (by omega)]
    simp [List.getD, hl]
  rw [e6, ← List.append_assoc, List.set_append_right _ _ (by simp; omega)]
  have : 6 - ((padR l).take p ++ (padR l).drop (p + 1)).length = 0 := by simp; omega
  rw [this, List.set_cons_zero]
  unfold padR
  rw [List.take_append_of_le_length (by omega), List.drop_append_of_le_length (by omega)]
  simp only [List.append_assoc, List.append_cancel_left_eq, List.length_append, List.length_take, List.length_drop]
  rw [show 7 - (min p l.length + (l.length - (p + 1))) = (7 - l.length) + 1 by omega, List.replicate_succ']

/-- A cut of an array from a place on. -/
theorem slice_ring3 (W : World) (b m : Nat) (hm : m ≤ 7) :
    ∃ ad : Addr, (m < 7 → ad = ⟨b, m, none⟩) ∧
    (Instr.sliceAt 49 (.pointer (some ⟨b, 0, none⟩)) (some (.int .i64 (m : Int))) none none).run Try.prog W = .ok (.slice (some ad) (7 - m) (7 - m)) W := by
  obtain ⟨i, hi, _, hs, _⟩ := info_parts int_info
  have hal : Try.prog.arrayLen 49 = 7 := by kernel_rfl
  have hel : Try.prog.elem 49 = 3 := by kernel_rfl
  have h := run_sliceAt_array_l (P := Try.prog) W 49 ⟨b, 0, none⟩ (by rw [hal, hel]; exact Try.underlying49) .i64 (m : Int) (by omega) (by rw [hal]; omega)
  have hc : Try.prog.cellsOf 3 = 1 := cells_int
  refine ⟨if 7 = m then ⟨b, 0, none⟩ else (⟨b, 0, none⟩ : Addr).add (m * 1), fun hlt => ?_, ?_⟩
  · rw [if_neg (by omega), Nat.mul_one, Addr.add_lit, Nat.zero_add]
  · rw [h, hel, run_sizeOf W hi, Result.andThen_ok, hal, hc]
    simp [slicedAt]


/-- copy between two places of one array. -/
theorem copy_ring {ops : Array Oper} {rest : List Oper} {o : Oper} {a : Act} {w : World} {Q : Exit → Act → World → Prop} (hgd : o.guard = none) (d s : Operand)
    (ho : o.op = .call { callee := .builtin .copy, args := #[d, s], argTypes := #[23, 23] }) (g p q m : Nat) (P : List Int) (h7 : P.length = 7)
    (dp sp : Addr) (dLen dCap sLen sCap : Nat) (hd : a.eval d = .slice (some dp) dLen dCap) (hs : a.eval s = .slice (some sp) sLen sCap) (hm : m = Nat.min sLen dLen)
    (hpos : 0 < m → dp = ⟨g, p, none⟩ ∧ sp = ⟨g, q, none⟩) (hp : p + m ≤ 7) (hq : q + m ≤ 7) (hg : Hid (Arr w g P))
    (h : ∀ w', Hid (Arr w' g (P.take p ++ ((P.drop q).take m ++ P.drop (p + m)))) → w.grownBy w' (some g) → w'.heap.size = w.heap.size → wpList Try.prog ops Q rest (a.put o.dst (goInt m)) w') :
    wpList Try.prog ops Q (o :: rest) a w := by
  by_cases h0 : m = 0
  · subst h0
    refine wpList_copy_nothing hgd d s 23 23 ho 3 Try.underlying23 int_size _ _ dLen dCap sLen sCap hd hs hm.symm ?_
    refine h w ?_ (World.grownBy.refl _ _) rfl
    rw [List.take_zero, List.nil_append, Nat.add_zero, List.take_append_drop]
    exact hg
  · obtain ⟨rfl, rfl⟩ := hpos (by omega)
    have hl : (ints ((P.drop q).take m)).length = m := by simp; omega
    have hh := wpList_copy_own hgd d s 23 23 ho 3 Try.underlying23 int_size g p dLen dCap ⟨g, q, none⟩ sLen sCap hd hs (ints P).toArray 49 hg.out (ints ((P.drop q).take m)) (by rw [hl]; exact hm)
      (fun j v hv => by
        have hj : j < m := by
          have := (List.getElem?_eq_some_iff.1 hv).1
          omega
        rw [Addr.add_lit, hg.out.cell (by omega), ← hv, ints_get _ _ (by simp; omega)]
        simp [List.getD, hj])
      (by rw [hl]; simp; omega) (ints_oneCell _) (rest := rest) (Q := Q) (ops := ops) (P := Try.prog)
    rw [hl] at hh
    refine hh (h _ ?_ ?_ ?_)
    · have e : ((ints P).toArray.toList.take p ++ (ints ((P.drop q).take m) ++ (ints P).toArray.toList.drop (p + m))) = ints (P.take p ++ ((P.drop q).take m ++ P.drop (p + m))) := by
        simp [ints, List.map_take, List.map_drop]
      rw [e]
      exact setRow_heap w g _ _ _ _ hg.out
    · exact ⟨rfl, rfl, rfl, by simp, fun k _ hk => setRow_other w g k _ (fun e => hk (by simp [e]))⟩
    · simp

set_option maxHeartbeats 1000000 in
theorem drop_any (l : List Int) (w : World) (h : Tell l) :
    Calls Try.prog 88 #[agp l] w fun e w' => e = .returned (agp (dropL l)) ∧ Below w.heap.size w w' := by
  have hl := h.2.1
  obtain ⟨a0, a1, a2, a3, a4, a5, a6, hP⟩ := seven (padR_length l hl)
  have HS := fun W => Lib.hid (size_any l W hl h.pos)
  have HPL := fun W => Lib.hid (place_any l ((l.length : Int) - 1) W hl (top_in l h))
  have hs := List.idxOf_lt_length_of_mem (top_in l h)
  have hpd := pad_drop l h
  have h3 := h.1
  unfold agp at HS HPL ⊢
  rw [hP] at HS HPL hpd ⊢
  simp only [ints, List.map_cons, List.map_nil] at HS HPL ⊢
  have HSS := Lib.hid HS
  have HPP := Lib.hid HPL
  have HPD := Lib.hid hpd
  clear HS HPL hpd hP h
  generalize l.length = n at *
  generalize l.idxOf ((n : Int) - 1) = p at *
  generalize padR (dropL l) = D at *
  go_enter Try.func88, Try.ntmps88
  go_wp2_with (first
    | (go_at_call 92; refine ((HSS.out _).out).mono ?_; rintro e w' ⟨rfl, rfl⟩)
    | (go_at_call 93; refine ((HPP.out _).out).mono ?_; rintro e w' ⟨rfl, rfl⟩))
  obtain ⟨W, hW⟩ : ∃ W, W = (((w.alloc (.cells #[.int .i64 a0, .int .i64 a1, .int .i64 a2, .int .i64 a3, .int .i64 a4, .int .i64 a5, .int .i64 a6] 49)).alloc (.cells #[.int .i64 0, .int .i64 0, .int .i64 0, .int .i64 0, .int .i64 0, .int .i64 0, .int .i64 0] 49)).alloc (.cells #[.int .i64 a0, .int .i64 a1, .int .i64 a2, .int .i64 a3, .int .i64 a4, .int .i64 a5, .int .i64 a6] 49)).alloc (.cells #[.int .i64 a0, .int .i64 a1, .int .i64 a2, .int .i64 a3, .int .i64 a4, .int .i64 a5, .int .i64 a6] 49) := ⟨_, rfl⟩
  rw [← hW]
  obtain ⟨k1, k2, _, k4, k5⟩ := back_world w _ _ [a0, a1, a2, a3, a4, a5, a6] zero7 rfl rfl W hW
  have HB := Lib.hid k1
  have HR := Lib.hid k2
  clear k1 k2 hW HSS HPP
  generalize hB : w.heap.size = B at *
  have HBB := Lib.hid hB
  have HK4 := Lib.hid k4
  clear hB k4
  have hBW : B + 1 < W.heap.size := by omega
  clear k5
  obtain ⟨ad1, had1, hs1⟩ := slice_ring3 W.drew B p (by omega)
  obtain ⟨ad2, had2, hs2⟩ := slice_ring3 W.drew B (p + 1) (by omega)
  rw [show (((p + 1 : Nat)) : Int) = (p : Int) + 1 by omega] at hs2
  have HAD1 := Lib.hid had1
  have HAD2 := Lib.hid had2
  have hw1 : IntKind.i64.wrap ((p : Int) + 1) = (p : Int) + 1 := IntWalk.i64_in _ (by omega)
  clear had1 had2
  go_still_tail 5, (by kernel_rfl)
  change wpList _ _ _ _ _ W.drew
  refine copy_ring rfl (.tmp 12) (.tmp 15) rfl B p (p + 1) (6 - p) [a0, a1, a2, a3, a4, a5, a6] rfl ad1 ad2 _ _ _ _ rfl rfl ?_ ?_ (by omega) (by omega) (w := W.drew) (Lib.hid HB.out.drew) ?_
  · show 6 - p = Nat.min (6 - p) (7 - p)
    exact (Nat.min_eq_left (by omega)).symm
  · intro hpos
    exact ⟨HAD1.out (by omega), HAD2.out (by omega)⟩
  · intro w2 HG2 hg2 hs2
    have HR2 := Lib.hid (HR.out.drew.grown hg2 (by omega))
    have hb2 := Lib.hid (HK4.out.drew.grown hg2 (by simp; omega) (by simp))
    rw [show p + (6 - p) = 6 by omega] at HG2
    rw [show (List.drop (p + 1) [a0, a1, a2, a3, a4, a5, a6]).take (6 - p) = List.drop (p + 1) [a0, a1, a2, a3, a4, a5, a6] from List.take_of_length_le (by simp)] at HG2
    have h7 : (List.take p [a0, a1, a2, a3, a4, a5, a6] ++ (List.drop (p + 1) [a0, a1, a2, a3, a4, a5, a6] ++ List.drop 6 [a0, a1, a2, a3, a4, a5, a6])).length = 7 := by simp; omega
    have hc6 := HG2.out.cell (i := 6) (by rw [h7]; omega)
    have hf6 := HG2.out.frozen 6
    have hst := HG2.out.set_ 6 (-1)
    rw [HPD.out] at hst
    have H7 : Hid (D.length = 7) := by rw [Hid, ← HPD.out]; simpa using h7
    have HST := Lib.hid hst
    have HR3 := Lib.hid (HR2.out.far (p := ⟨B, 6, none⟩) (by simp) (.int .i64 (-1)))
    have hb3 := Lib.hid (hb2.out.setCell (p := ⟨B, 6, none⟩) (by simp) (.int .i64 (-1)))
    have hs3 := HR3.out.lt
    clear hst h7 HG2 HR2 hg2 hs2 hs1 hw1
    generalize (List.take p [a0, a1, a2, a3, a4, a5, a6] ++ (List.drop (p + 1) [a0, a1, a2, a3, a4, a5, a6] ++ List.drop 6 [a0, a1, a2, a3, a4, a5, a6])).getD 6 0 = old at *
    go_wp2_with (first
      | (refine load_ring rfl _ rfl B D H7.out rfl HST ?_)
      | (refine store_ring rfl _ _ rfl (B + 1) zero7 D rfl H7.out rfl rfl HR3 ?_; intro w6 HB6 hg6 _))
    try simp only [Exit.inBlock, Exit.then]
    exact ret_ring rfl (B + 1) D H7.out rfl HB6 rfl ⟨rfl, by rw [HBB.out]; exact hb3.out.grown hg6 (by omega) (by simp)⟩
end Go.Proofs.Ytgjgpnmldlnmgaa
