/- Several texts as one: Drop World Put PutT DropT PutM. -/
import Derived.Test.YtmfilnpbkonfaaaDoorPR
import Derived.StillTailTactics
import Derived.Laws.CopyOwn
import Derived.Test.YtmfilnpbkonfaaaDoorMA
namespace Go.Proofs.YtmfilnpbkonfaaaDoor
open Go.ChangeShapes Go.WideShapes Go.ChangeAt Go.RowKit

/-- The list without its greatest point. -/
def dropL (l : List Int) : List Int := l.filter fun x => x != (l.length : Int) - 1
theorem dropL_eq (l : List Int) (h : Tell l) : dropL l = l.take (l.idxOf ((l.length : Int) - 1)) ++ l.drop (l.idxOf ((l.length : Int) - 1) + 1) := by
  unfold dropL
  rw [← h.2.2.2.erase_eq_filter, List.erase_eq_eraseIdx_of_idxOf, List.eraseIdx_eq_take_drop_succ]
  rfl
theorem top_in (l : List Int) (h : Tell l) : ((l.length : Int) - 1) ∈ l := h.has (by have := h.1; omega) (by omega)
theorem dropL_length (l : List Int) (h : Tell l) : (dropL l).length = l.length - 1 := by
  have := List.idxOf_lt_length_of_mem (top_in l h)
  rw [dropL_eq l h]
  simp; omega
theorem dropL_pos (l : List Int) (h : Tell l) : ∀ x ∈ dropL l, 0 ≤ x := fun x hx => h.pos x (List.mem_filter.1 hx).1
theorem pad_drop (l : List Int) (h : Tell l) : ((padR l).take (l.idxOf ((l.length : Int) - 1)) ++ ((padR l).drop (l.idxOf ((l.length : Int) - 1) + 1) ++ (padR l).drop 6)).set 6 (-1) = padR (dropL l) := by
  have hp := List.idxOf_lt_length_of_mem (top_in l h)
  have h7 := h.2.1
  rw [dropL_eq l h]
  generalize l.idxOf ((l.length : Int) - 1) = p at *
  have hl := padR_length l h7
  have e6 : (padR l).drop 6 = [(padR l).getD 6 0] := by
    rw [List.drop_eq_getElem_cons (by omega), List.drop_of_length_le (by omega)]
    simp [List.getD, hl]
  rw [e6, ← List.append_assoc, List.set_append_right _ _ (by simp; omega)]
  have : 6 - ((padR l).take p ++ (padR l).drop (p + 1)).length = 0 := by simp; omega
  rw [this, List.set_cons_zero]
  unfold padR
  rw [List.take_append_of_le_length (by omega), List.drop_append_of_le_length (by omega)]
  simp only [List.append_assoc, List.append_cancel_left_eq, List.length_append, List.length_take, List.length_drop]
  rw [show 7 - (min p l.length + (l.length - (p + 1))) = (7 - l.length) + 1 by omega, List.replicate_succ']

/-- A cut of an array from a place on. -/
theorem slice_ring3 (W : World) (b m : Nat) (hm : m ≤ 7) :
    ∃ ad : Addr, (m < 7 → ad = ⟨b, m, none⟩) ∧
    (Instr.sliceAt 38 (.pointer (some ⟨b, 0, none⟩)) (some (.int .i64 (m : Int))) none none).run Tryd.prog W = .ok (.slice (some ad) (7 - m) (7 - m)) W := by
  obtain ⟨i, hi, _, hs, _⟩ := info_parts int_info
  have hal : Tryd.prog.arrayLen 38 = 7 := by kernel_rfl
  have hel : Tryd.prog.elem 38 = 3 := by kernel_rfl
  have h := run_sliceAt_array_l (P := Tryd.prog) W 38 ⟨b, 0, none⟩ (by rw [hal, hel]; exact Tryd.underlying38) .i64 (m : Int) (by omega) (by rw [hal]; omega)
  have hc : Tryd.prog.cellsOf 3 = 1 := cells_int
  refine ⟨if 7 = m then ⟨b, 0, none⟩ else (⟨b, 0, none⟩ : Addr).add (m * 1), fun hlt => ?_, ?_⟩
  · rw [if_neg (by omega), Nat.mul_one, Addr.add_lit, Nat.zero_add]
  · rw [h, hel, run_sizeOf W hi, Result.andThen_ok, hal, hc]
    simp [slicedAt]


/-- copy between two places of one array. -/
theorem copy_ring {ops : Array Oper} {rest : List Oper} {o : Oper} {a : Act} {w : World} {Q : Exit → Act → World → Prop} (hgd : o.guard = none) (d s : Operand)
    (ho : o.op = .call { callee := .builtin .copy, args := #[d, s], argTypes := #[23, 23] }) (g p q m : Nat) (P : List Int) (h7 : P.length = 7)
    (dp sp : Addr) (dLen dCap sLen sCap : Nat) (hd : a.eval d = .slice (some dp) dLen dCap) (hs : a.eval s = .slice (some sp) sLen sCap) (hm : m = Nat.min sLen dLen)
    (hpos : 0 < m → dp = ⟨g, p, none⟩ ∧ sp = ⟨g, q, none⟩) (hp : p + m ≤ 7) (hq : q + m ≤ 7) (hg : Hid (Arr w g P))
    (h : ∀ w', Hid (Arr w' g (P.take p ++ ((P.drop q).take m ++ P.drop (p + m)))) → w.grownBy w' (some g) → w'.heap.size = w.heap.size → wpList Tryd.prog ops Q rest (a.put o.dst (goInt m)) w') :
    wpList Tryd.prog ops Q (o :: rest) a w := by
  by_cases h0 : m = 0
  · subst h0
    refine wpList_copy_nothing hgd d s 23 23 ho 3 Tryd.underlying23 int_size _ _ dLen dCap sLen sCap hd hs hm.symm ?_
    refine h w ?_ (World.grownBy.refl _ _) rfl
    rw [List.take_zero, List.nil_append, Nat.add_zero, List.take_append_drop]
    exact hg
  · obtain ⟨rfl, rfl⟩ := hpos (by omega)
    have hl : (ints ((P.drop q).take m)).length = m := by simp; omega
    have hh := wpList_copy_own hgd d s 23 23 ho 3 Tryd.underlying23 int_size g p dLen dCap ⟨g, q, none⟩ sLen sCap hd hs (ints P).toArray 38 hg.out (ints ((P.drop q).take m)) (by rw [hl]; exact hm)
      (fun j v hv => by
        have hj : j < m := by
          have := (List.getElem?_eq_some_iff.1 hv).1
          omega
        rw [Addr.add_lit, hg.out.cell (by omega), ← hv, ints_get _ _ (by simp; omega)]
        simp [List.getD, hj])
      (by rw [hl]; simp; omega) (ints_oneCell _) (rest := rest) (Q := Q) (ops := ops) (P := Tryd.prog)
    rw [hl] at hh
    refine hh (h _ ?_ ?_ ?_)
    · have e : ((ints P).toArray.toList.take p ++ (ints ((P.drop q).take m) ++ (ints P).toArray.toList.drop (p + m))) = ints (P.take p ++ ((P.drop q).take m ++ P.drop (p + m))) := by
        simp [ints, List.map_take, List.map_drop]
      rw [e]
      exact setRow_heap w g _ _ _ _ hg.out
    · exact ⟨rfl, rfl, rfl, by simp, fun k _ hk => setRow_other w g k _ (fun e => hk (by simp [e]))⟩
    · simp

end Go.Proofs.YtmfilnpbkonfaaaDoor

namespace Go.Proofs.YtmfilnpbkonfaaaDoor
end Go.Proofs.YtmfilnpbkonfaaaDoor

namespace Go.Proofs.YtmfilnpbkonfaaaDoor
open Go.ChangeShapes Go.WideShapes Go.ChangeAt Go.RowKit

/-- The list with the new greatest point just behind x. -/
def putL (l : List Int) (x : Int) : List Int := l.take (l.idxOf x + 1) ++ ((l.length : Int) :: l.drop (l.idxOf x + 1))
theorem putL_length (l : List Int) (x : Int) (hx : x ∈ l) : (putL l x).length = l.length + 1 := by
  have := List.idxOf_lt_length_of_mem hx
  simp [putL]; omega
theorem putL_pos (l : List Int) (x : Int) (h : ∀ y ∈ l, 0 ≤ y) : ∀ y ∈ putL l x, 0 ≤ y := fun y hy => by
  rcases List.mem_append.1 hy with hy | hy
  · exact h y (List.mem_of_mem_take hy)
  · rcases List.mem_cons.1 hy with rfl | hy
    · omega
    · exact h y (List.mem_of_mem_drop hy)
theorem putL_low (l : List Int) (x : Int) (k : Nat) (hk : k < l.length) (hs : k ≤ l.idxOf x) : (putL l x).getD k 0 = l.getD k 0 := by
  unfold putL
  simp only [List.getD]
  rw [List.getElem?_append_left (by simp; omega), List.getElem?_take, if_pos (by omega)]
theorem putL_mid (l : List Int) (x : Int) (hx : x ∈ l) : (putL l x).getD (l.idxOf x + 1) 0 = l.length := by
  have := List.idxOf_lt_length_of_mem hx
  unfold putL
  simp only [List.getD]
  rw [List.getElem?_append_right (by simp; omega)]
  have e : l.idxOf x + 1 - (l.take (l.idxOf x + 1)).length = 0 := by simp; omega
  rw [e]; simp
theorem putL_high (l : List Int) (x : Int) (k : Nat) (hx : x ∈ l) (_ : k < l.length) (hs : l.idxOf x < k) : (putL l x).getD (k + 1) 0 = l.getD k 0 := by
  have := List.idxOf_lt_length_of_mem hx
  unfold putL
  simp only [List.getD]
  rw [List.getElem?_append_right (by simp; omega)]
  have e : k + 1 - (l.take (l.idxOf x + 1)).length = (k - (l.idxOf x + 1)) + 1 := by simp; omega
  rw [e, List.getElem?_cons_succ, List.getElem?_drop, show l.idxOf x + 1 + (k - (l.idxOf x + 1)) = k by omega]
theorem at_only (l : List Int) (x : Int) (k : Nat) (hd : l.Nodup) (hk : k < l.length) (h : l.getD k 0 = x) : k = l.idxOf x := by
  have e : l[k] = x := by simpa [List.getD, hk] using h
  rw [← e, hd.idxOf_getElem]

theorem pad_put (l : List Int) (x : Int) (hx : x ∈ l) (h7 : l.length < 7) (s : Nat) (hs : s = l.idxOf x + 1) :
    ((padR l).take (s + 1) ++ (((padR l).drop s).take (6 - s) ++ (padR l).drop 7)).set s l.length = padR (putL l x) := by
  have hi := List.idxOf_lt_length_of_mem hx
  have hl := padR_length l (by omega)
  have e1 : ((padR l).drop s).take (6 - s) ++ (padR l).drop 7 = ((padR l).drop s).take (6 - s) := by
    have e0 : (padR l).drop 7 = [] := List.drop_of_length_le (by omega)
    rw [e0, List.append_nil]
  rw [e1]
  have e2 : (padR l).take (s + 1) = (padR l).take s ++ [(padR l).getD s 0] := by
    rw [List.take_succ_eq_append_getElem (by omega)]
    simp [List.getD, show s < (padR l).length by omega]
  rw [e2, List.append_assoc, List.set_append_right _ _ (by simp; omega)]
  have e3 : s - ((padR l).take s).length = 0 := by simp; omega
  rw [e3]
  simp only [List.cons_append, List.nil_append, List.set_cons_zero]
  unfold padR putL
  rw [← hs, List.take_append_of_le_length (by omega), List.drop_append_of_le_length (by omega), List.append_assoc]
  congr 1
  rw [List.cons_append]
  congr 1
  rw [List.take_append]
  have e4 : (l.drop s).take (6 - s) = l.drop s := List.take_of_length_le (by simp; omega)
  rw [e4, List.take_replicate]
  congr 2
  simp
  omega

set_option maxRecDepth 10000 in
set_option maxHeartbeats 1000000 in
theorem put_any (l : List Int) (x : Int) (w : World) (h : Tell l) (hx : x ∈ l) (h6 : l.length < 7) :
    Calls Tryd.prog 43 #[agp l, .int .i64 x] w fun e w' => e = .returned (agp (putL l x)) ∧ Below w.heap.size w w' := by
  have hl := h.2.1
  have h3 := h.1
  obtain ⟨a0, a1, a2, a3, a4, a5, a6, hP⟩ := seven (padR_length l hl)
  have HS := fun W => Lib.hid (size_any l W hl h.pos)
  have HPL := fun W => Lib.hid (place_any l x W hl hx)
  have hs := List.idxOf_lt_length_of_mem hx
  have hpd := pad_put l x hx h6 _ rfl
  unfold agp at HS HPL ⊢
  rw [hP] at HS HPL hpd ⊢
  simp only [ints, List.map_cons, List.map_nil] at HS HPL ⊢
  have HSS := Lib.hid HS
  have HPP := Lib.hid HPL
  have HPD := Lib.hid hpd
  have hD : (padR (putL l x)).length = 7 := padR_length _ (by rw [putL_length l x hx]; omega)
  have HD := Lib.hid hD
  clear HS HPL hpd hP h hx hD
  generalize l.length = n at *
  generalize l.idxOf x = p at *
  generalize padR (putL l x) = D at *
  have hw0 : IntKind.i64.wrap ((p : Int) + 1) = (p : Int) + 1 := IntWalk.i64_in _ (by omega)
  go_enter Tryd.func43, Tryd.ntmps43
  go_wp2
  go_region_with (first
    | (go_at_call 53; refine ((HSS.out _).out).mono ?_; rintro e w' ⟨rfl, rfl⟩)
    | (go_at_call 60; refine ((HPP.out _).out).mono ?_; rintro e w' ⟨rfl, rfl⟩))
  all_goals
    obtain ⟨W, hW⟩ : ∃ W, W = ((((w.alloc (.cells #[.int .i64 a0, .int .i64 a1, .int .i64 a2, .int .i64 a3, .int .i64 a4, .int .i64 a5, .int .i64 a6] 38)).alloc (.cells #[.int .i64 0, .int .i64 0, .int .i64 0, .int .i64 0, .int .i64 0, .int .i64 0, .int .i64 0] 38)).alloc (.cells #[.int .i64 a0, .int .i64 a1, .int .i64 a2, .int .i64 a3, .int .i64 a4, .int .i64 a5, .int .i64 a6] 38)).alloc (.cells #[.int .i64 a0, .int .i64 a1, .int .i64 a2, .int .i64 a3, .int .i64 a4, .int .i64 a5, .int .i64 a6] 38)).drew := ⟨_, rfl⟩
    rw [← hW]
    obtain ⟨k1, k2, k3, k4⟩ := cut_world w _ _ [a0, a1, a2, a3, a4, a5, a6] zero7 rfl rfl W hW
    have HB := Lib.hid k1
    have HR := Lib.hid k2
    have HK := Lib.hid k3
    clear k1 k2 k3 hW HSS HPP
    generalize hB : w.heap.size = B at *
    have HBB := Lib.hid hB
    clear hB
    have hBW : B + 1 < W.heap.size := by omega
    clear k4
    obtain ⟨ad1, had1, hs1⟩ := slice_ring3 W.drew B (p + 1 + 1) (by omega)
    obtain ⟨ad2, had2, hs2⟩ := slice_ring3 W.drew B (p + 1) (by omega)
    rw [show (((p + 1 + 1 : Nat)) : Int) = (p : Int) + 1 + 1 by omega] at hs1
    rw [show (((p + 1 : Nat)) : Int) = (p : Int) + 1 by omega] at hs2
    have HAD1 := Lib.hid had1
    have HAD2 := Lib.hid had2
    have hw1 : IntKind.i64.wrap ((p : Int) + 1 + 1) = (p : Int) + 1 + 1 := IntWalk.i64_in _ (by omega)
    clear had1 had2
    go_wp2
    go_still_tail 5, (by kernel_rfl)
    change wpList _ _ _ _ _ W.drew
    refine copy_ring rfl (.tmp 15) (.tmp 17) rfl B (p + 1 + 1) (p + 1) (5 - p) [a0, a1, a2, a3, a4, a5, a6] rfl ad1 ad2 _ _ _ _ rfl rfl ?_ ?_ (by omega) (by omega) (w := W.drew) (Lib.hid HB.out.drew) ?_
    · show 5 - p = Nat.min (6 - p) (5 - p)
      exact (Nat.min_eq_right (by omega)).symm
    · intro hpos
      exact ⟨HAD1.out (by omega), HAD2.out (by omega)⟩
    · intro w2 HG2 hg2 hs2'
      have HR2 := Lib.hid (HR.out.drew.grown hg2 (by omega))
      have hb2 := Lib.hid (HK.out.drew.grown hg2 (by simp; omega) (by simp))
      rw [show p + 1 + 1 + (5 - p) = 7 by omega] at HG2
      rw [show 6 - (p + 1) = 5 - p by omega] at HPD
      have h7 : (List.take (p + 1 + 1) [a0, a1, a2, a3, a4, a5, a6] ++ (List.take (5 - p) (List.drop (p + 1) [a0, a1, a2, a3, a4, a5, a6]) ++ List.drop 7 [a0, a1, a2, a3, a4, a5, a6])).length = 7 := by simp; omega
      have hc6 := HG2.out.cell (i := p + 1) (by rw [h7]; omega)
      have hf6 := HG2.out.frozen (p + 1)
      have hst := HG2.out.set_ (p + 1) (n : Int)
      rw [HPD.out] at hst
      have HST := Lib.hid hst
      have HR3 := Lib.hid (HR2.out.far (p := ⟨B, p + 1, none⟩) (by simp) (.int .i64 (n : Int)))
      have hb3 := Lib.hid (hb2.out.setCell (p := ⟨B, p + 1, none⟩) (by simp) (.int .i64 (n : Int)))
      have hs3 := HR3.out.lt
      clear hst h7 HG2 HR2 hg2 hs2' hs1 hs2 hw1 hw0
      generalize (List.take (p + 1 + 1) [a0, a1, a2, a3, a4, a5, a6] ++ (List.take (5 - p) (List.drop (p + 1) [a0, a1, a2, a3, a4, a5, a6]) ++ List.drop 7 [a0, a1, a2, a3, a4, a5, a6])).getD (p + 1) 0 = old at *
      go_wp2_with (first
        | (refine load_ring rfl _ rfl B D HD.out rfl HST ?_)
        | (refine store_ring rfl _ _ rfl (B + 1) zero7 D rfl HD.out rfl rfl HR3 ?_; intro w6 HB6 hg6 _))
      try simp only [Exit.inBlock, Exit.then]
      exact ret_ring rfl (B + 1) D HD.out rfl HB6 rfl ⟨rfl, by rw [HBB.out]; exact hb3.out.grown hg6 (by omega) (by simp)⟩
end Go.Proofs.YtmfilnpbkonfaaaDoor

namespace Go.Proofs.YtmfilnpbkonfaaaDoor
open Go.ChangeShapes Go.WideShapes Go.ChangeAt Go.RowKit

/-- A ring of less than seven points, and a point of it. -/
def putB (l : List Int) (x : Int) : Bool := hasB l x && decide (l.length ≠ 7)
def putR (l : List Int) (x : Int) : List Int := if putB l x then putL l x else []
theorem putB_yes {l : List Int} {x : Int} (h : putB l x = true) : hasB l x = true ∧ l.length ≠ 7 := by
  simpa [putB] using h
theorem putR_length (l : List Int) (x : Int) : (putR l x).length ≤ 7 := by
  unfold putR
  split
  · rename_i h
    have hy := hasB_yes (putB_yes h).1
    have := (putB_yes h).2
    have := hy.1.1.2.1
    rw [putL_length l x hy.2.2.2]; omega
  · simp

/-- How much of the new list is made of the first k. -/
def madeN (l : List Int) (x : Int) (k : Nat) : Nat := k + if l.idxOf x < k then 1 else 0

set_option maxHeartbeats 1000000 in
theorem ptI_any (A : Option Addr) (n c H : Nat) (l : List Int) (x : Int) (w : World) (h : Rd w H A n l) (hH : H ≤ w.heap.size) (hn : n ≤ 1048576) (hnc : n ≤ c) (hcm : c ≤ 9223372036854775807) :
    Calls Tryd.prog 21 #[.slice A n c, .int .i64 x] w fun e w' => ∃ v, e = .returned (.tuple #[v, .bool (putB l x)]) ∧ Own w' w.heap.size v (putR l x) ∧ Below w.heap.size w w' := by
  have hread := Lib.hid (readR_any A n c H l w h hH hn hnc hcm)
  have HL := Lib.hid h.len
  unfold putR
  by_cases hr : Ring l
  · have hl7 := hr.1.2.1
    obtain ⟨a0, a1, a2, a3, a4, a5, a6, hP⟩ := seven (padR_length l hl7)
    have hrp : ringP l = [a0, a1, a2, a3, a4, a5, a6] := by rw [ringP, if_pos hr, hP]
    have hhas := fun W => Lib.hid (has_any l x W hl7 hr.1.pos)
    have hin : hasB l x = decide (0 ≤ x ∧ x < l.length) := by rw [hasB, ring_yes hr, Bool.true_and]
    rw [← hin] at hhas
    unfold agp at hhas
    rw [hP] at hhas
    rw [hrp, ring_yes hr] at hread
    simp only [ints, List.map_cons, List.map_nil] at hhas hread
    have HH := Lib.hid hhas
    have h7 : n ≤ 7 := by rw [← HL.out]; exact hl7
    clear hhas hin hrp
    cases ht : hasB l x
    · have hp : putB l x = false := by rw [putB, ht, Bool.false_and]
      rw [hp, if_neg (by simp)]
      rw [ht] at HH
      clear hp ht hr hP hl7
      go_enter Tryd.func21, Tryd.ntmps21
      go_wp2_with fail
      refine hread.out.mono ?_
      rintro e W1 ⟨rfl, hb1⟩
      have HA := Lib.hid (new_ring W1)
      go_wp2_with (refine store_ring rfl _ _ rfl W1.heap.size zero7 [a0, a1, a2, a3, a4, a5, a6] rfl rfl rfl rfl HA ?_; intro w2 HA2 hg2 hs2; obtain ⟨c0, c1, c2, c3, c4, c5, c6⟩ := cells7 HA2.out; clear hs2)
      have hb2 := Lib.hid ((hb1.alloc hb1.size (.cells #[.int .i64 0, .int .i64 0, .int .i64 0, .int .i64 0, .int .i64 0, .int .i64 0, .int .i64 0] 38)).grown hg2 (by have := hb1.size; simp; omega) (by have := hb1.size; simp; omega))
      clear hg2 hb1
      refine ((HH.out _).out).mono ?_
      rintro e w3 ⟨rfl, hb3⟩
      have hb4 := Lib.hid (hb2.out.trans (hb3.mono hb2.out.size))
      clear hb3 c0 c1 c2 c3 c4 c5 c6
      go_wp2
      go_ret2
      exact ⟨_, rfl, World.ownsRow_nil _ _ _ _, hb4.out⟩
    · have hy := hasB_yes ht
      rw [ht] at HH
      by_cases h6 : n = 7
      · have hp : putB l x = false := by rw [putB, ht, Bool.true_and]; simp [HL.out, h6]
        rw [hp, if_neg (by simp)]
        have hb : (decide ((3 : Int) ≤ (n : Int) + 1) && decide ((n : Int) + 1 ≤ 7)) = false := by simp; omega
        clear hp ht hr hP hl7 hy
        go_enter Tryd.func21, Tryd.ntmps21
        subst h6
        go_wp2_with fail
        refine hread.out.mono ?_
        rintro e W1 ⟨rfl, hb1⟩
        have HA := Lib.hid (new_ring W1)
        go_wp2_with (refine store_ring rfl _ _ rfl W1.heap.size zero7 [a0, a1, a2, a3, a4, a5, a6] rfl rfl rfl rfl HA ?_; intro w2 HA2 hg2 hs2; obtain ⟨c0, c1, c2, c3, c4, c5, c6⟩ := cells7 HA2.out; clear hs2)
        have hb2 := Lib.hid ((hb1.alloc hb1.size (.cells #[.int .i64 0, .int .i64 0, .int .i64 0, .int .i64 0, .int .i64 0, .int .i64 0, .int .i64 0] 38)).grown hg2 (by have := hb1.size; simp; omega) (by have := hb1.size; simp; omega))
        clear hg2 hb1
        refine ((HH.out _).out).mono ?_
        rintro e w3 ⟨rfl, hb3⟩
        have hb4 := Lib.hid (hb2.out.trans (hb3.mono hb2.out.size))
        clear hb3 c0 c1 c2 c3 c4 c5 c6
        go_wp2_with (go_at_call 24; refine (sizeIn_any _ _).mono ?_; rintro e w' ⟨rfl, rfl⟩)
        go_ret2
        exact ⟨_, rfl, World.ownsRow_nil _ _ _ _, hb4.out⟩
      · have hp : putB l x = true := by rw [putB, ht, Bool.true_and]; simp [HL.out, h6]
        rw [hp, if_pos rfl]
        have hb : (decide ((3 : Int) ≤ (n : Int) + 1) && decide ((n : Int) + 1 ≤ 7)) = true := by
          have := hr.1.1
          rw [HL.out] at this
          simp; omega
        have hput := fun W => Lib.hid (put_any l x W hr.1 hy.2.2.2 (by rw [HL.out]; omega))
        have hlen := putL_length l x hy.2.2.2
        have hlist := fun W => Lib.hid (list_any (putL l x) W (by omega) (by rw [hlen, HL.out]; omega) (putL_pos l x hr.1.pos))
        unfold agp at hput hlist
        rw [hP] at hput
        have HC := Lib.hid hput
        have HLI := Lib.hid hlist
        clear hp ht hr hP hl7 hput hlist hy hlen
        generalize putL l x = C at *
        generalize padR C = Q at *
        go_enter Tryd.func21, Tryd.ntmps21
        go_wp2_with fail
        refine hread.out.mono ?_
        rintro e W1 ⟨rfl, hb1⟩
        have HA := Lib.hid (new_ring W1)
        go_wp2_with (refine store_ring rfl _ _ rfl W1.heap.size zero7 [a0, a1, a2, a3, a4, a5, a6] rfl rfl rfl rfl HA ?_; intro w2 HA2 hg2 hs2; obtain ⟨c0, c1, c2, c3, c4, c5, c6⟩ := cells7 HA2.out; clear hs2)
        have hb2 := Lib.hid ((hb1.alloc hb1.size (.cells #[.int .i64 0, .int .i64 0, .int .i64 0, .int .i64 0, .int .i64 0, .int .i64 0, .int .i64 0] 38)).grown hg2 (by have := hb1.size; simp; omega) (by have := hb1.size; simp; omega))
        clear hg2 hb1
        refine ((HH.out _).out).mono ?_
        rintro e w3 ⟨rfl, hb3⟩
        have hb4 := Lib.hid (hb2.out.trans (hb3.mono hb2.out.size))
        have HA3 := Lib.hid (HA2.out.below hb3 HA2.out.lt)
        clear hb3 c0 c1 c2 c3 c4 c5 c6
        go_wp2_with (first
          | (go_at_call 24; refine (sizeIn_any _ _).mono ?_; rintro e w' ⟨rfl, rfl⟩)
          | (refine load_ring rfl _ rfl W1.heap.size [a0, a1, a2, a3, a4, a5, a6] rfl rfl HA3 ?_))
        refine ((HC.out _).out).mono ?_
        rintro e w4 ⟨rfl, hb5⟩
        have hb6 := Lib.hid (hb4.out.trans (hb5.mono hb4.out.size))
        clear hb5
        go_wp2_with fail
        refine ((HLI.out _).out).mono ?_
        rintro e w5 ⟨v, rfl, ho, hb7⟩
        have HO := Lib.hid (own_less ho hb6.out.size)
        have hb8 := Lib.hid (hb6.out.trans (hb7.mono hb6.out.size))
        clear ho hb7
        go_wp2
        go_ret2
        exact ⟨_, rfl, HO.out, hb8.out⟩
  · have ht : putB l x = false := by rw [putB, hasB, ring_no hr, Bool.false_and, Bool.false_and]
    have H7 := Lib.hid (ringP_length l)
    rw [ht, if_neg (by simp)]
    rw [ring_no hr] at hread
    clear hr ht
    generalize ringP l = P at *
    go_enter Tryd.func21, Tryd.ntmps21
    go_wp2_with fail
    refine hread.out.mono ?_
    rintro e W1 ⟨rfl, hb1⟩
    have HA := Lib.hid (new_ring W1)
    go_wp2_with (refine store_ring rfl _ _ rfl W1.heap.size zero7 P rfl H7.out rfl rfl HA ?_; intro w2 HA2 hg2 hs2)
    have hb2 := (hb1.alloc hb1.size (.cells #[.int .i64 0, .int .i64 0, .int .i64 0, .int .i64 0, .int .i64 0, .int .i64 0, .int .i64 0] 38)).grown hg2 (by have := hb1.size; simp; omega) (by have := hb1.size; simp; omega)
    clear hg2 hs2 hb1
    go_ret2
    exact ⟨_, rfl, World.ownsRow_nil _ _ _ _, hb2⟩
end Go.Proofs.YtmfilnpbkonfaaaDoor

namespace Go.Proofs.YtmfilnpbkonfaaaDoor
open Go.ChangeShapes Go.WideShapes Go.ChangeAt Go.RowKit

/-- A ring of four points at least. -/
def dropB (l : List Int) : Bool := ringB l && decide (l.length ≠ 3)
def dropR (l : List Int) : List Int := if dropB l then dropL l else []
theorem dropB_yes {l : List Int} (h : dropB l = true) : Ring l ∧ l.length ≠ 3 := by
  simpa [dropB, ringB] using h
theorem dropR_length (l : List Int) : (dropR l).length ≤ 7 := by
  unfold dropR
  split
  · rename_i h; rw [dropL_length l (dropB_yes h).1.1]; have := (dropB_yes h).1.1.2.1; omega
  · simp

/-- What is kept of the first k. -/
def keepK (l : List Int) (g : Int) (k : Nat) : List Int := (l.take k).filter fun x => x != g
theorem keepK_yes (l : List Int) (g : Int) (k : Nat) (hk : k < l.length) (h : l.getD k 0 ≠ g) : ints (keepK l g k) ++ [.int .i64 (l.getD k 0)] = ints (keepK l g (k + 1)) := by
  have e : keepK l g (k + 1) = keepK l g k ++ [l.getD k 0] := by
    unfold keepK
    rw [List.take_succ_eq_append_getElem hk, List.filter_append]
    simp [List.getD, hk] at h ⊢
    exact h
  rw [e, ints, ints, List.map_append]
  rfl
theorem keepK_no (l : List Int) (g : Int) (k : Nat) (hk : k < l.length) (h : l.getD k 0 = g) : keepK l g (k + 1) = keepK l g k := by
  unfold keepK
  rw [List.take_succ_eq_append_getElem hk, List.filter_append]
  simp [List.getD, hk] at h ⊢
  exact h
theorem keepK_le (l : List Int) (g : Int) (k : Nat) : (keepK l g k).length ≤ k := by
  unfold keepK
  exact Nat.le_trans (List.length_filter_le _ _) (List.length_take_le _ _)
theorem keepK_full (l : List Int) : keepK l ((l.length : Int) - 1) l.length = dropL l := by unfold keepK dropL; rw [List.take_length]

end Go.Proofs.YtmfilnpbkonfaaaDoor

namespace Go.Proofs.YtmfilnpbkonfaaaDoor
open Go.ChangeShapes Go.WideShapes Go.ChangeAt Go.RowKit

theorem putB_no {l : List Int} {x : Int} (h : ¬ putB l x = true) : putB l x = false := by simpa using h
theorem putL_perm (l : List Int) (x : Int) : List.Perm (putL l x) ((l.length : Int) :: l) := by
  have := List.perm_middle (a := (l.length : Int)) (l₁ := l.take (l.idxOf x + 1)) (l₂ := l.drop (l.idxOf x + 1))
  rw [List.take_append_drop] at this
  exact this
theorem top_not {l : List Int} (h : Tell l) : ∀ y ∈ l, y ≠ (l.length : Int) := fun y hy => by have := h.2.2.1 y hy; omega
theorem putL_tell {l : List Int} {x : Int} (h : Tell l) (hx : x ∈ l) (h6 : l.length < 7) : Tell (putL l x) := by
  have hl := putL_length l x hx
  have hp := putL_perm l x
  refine ⟨by have := h.1; omega, by omega, fun y hy => ?_, ?_⟩
  · rw [hl]
    rcases List.mem_cons.1 (hp.mem_iff.1 hy) with rfl | hy
    · omega
    · have := h.2.2.1 y hy; omega
  · refine hp.nodup_iff.2 (List.nodup_cons.2 ⟨fun hy => top_not h _ hy rfl, h.2.2.2⟩)
theorem filter_all {l : List Int} {q : Int} (h : ∀ y ∈ l, y ≠ q) : l.filter (fun y => y != q) = l :=
  List.filter_eq_self.2 fun y hy => by simpa using h y hy
theorem putL_drop {l : List Int} {x : Int} (h : Tell l) (hx : x ∈ l) : dropL (putL l x) = l := by
  unfold dropL
  rw [putL_length l x hx, show ((l.length + 1 : Nat) : Int) - 1 = (l.length : Int) by omega]
  unfold putL
  rw [List.filter_append, List.filter_cons, if_neg (by simp), filter_all (fun y hy => top_not h y (List.mem_of_mem_take hy)), filter_all (fun y hy => top_not h y (List.mem_of_mem_drop hy)), List.take_append_drop]
theorem putL_idx {l : List Int} {x : Int} (h : Tell l) (hx : x ∈ l) (h6 : l.length < 7) : (putL l x).idxOf x = l.idxOf x := by
  have hi := List.idxOf_lt_length_of_mem hx
  have e := putL_low l x (l.idxOf x) hi (Nat.le_refl _)
  rw [at_idx l x hx] at e
  have := idxAt (putL_tell h hx h6).2.2.2 (i := l.idxOf x) (by rw [putL_length l x hx]; omega)
  rw [e] at this
  exact this
theorem putL_ring {l : List Int} {x : Int} (h : Ring l) (hx : x ∈ l) (h6 : l.length < 7) : Ring (putL l x) := by
  refine ⟨putL_tell h.1 hx h6, ?_⟩
  rw [putL_low l x 0 (by have := h.1.1; omega) (Nat.zero_le _)]
  exact h.2
theorem put_facts {l : List Int} {x : Int} (h : putB l x = true) : Ring l ∧ x ∈ l ∧ l.length < 7 ∧ Ring (putL l x) ∧ x ∈ putL l x ∧ (putL l x).getD (((putL l x).idxOf x + 1) % (putL l x).length) 0 = (l.length : Int) ∧ dropL (putL l x) = l := by
  obtain ⟨hb, h7⟩ := putB_yes h
  obtain ⟨hr, _, _, hx⟩ := hasB_yes hb
  have h6 : l.length < 7 := by have := hr.1.2.1; omega
  have hi := List.idxOf_lt_length_of_mem hx
  refine ⟨hr, hx, h6, putL_ring hr hx h6, (putL_perm l x).mem_iff.2 (List.mem_cons_of_mem _ hx), ?_, putL_drop hr.1 hx⟩
  rw [putL_idx hr.1 hx h6, putL_length l x hx, Nat.mod_eq_of_lt (by omega)]
  exact putL_mid l x hx
/-- The greatest point put back behind the one that it stood behind. -/
theorem drop_put {l : List Int} (h : Ring l) (h3 : l.length ≠ 3) : Ring (dropL l) ∧ (dropL l).length = l.length - 1 ∧ ∃ x, x ∈ dropL l ∧ putL (dropL l) x = l := by
  have ht := h.1.1
  have hl := dropL_length l h.1
  have htop := top_in l h.1
  have hq := List.idxOf_lt_length_of_mem htop
  obtain ⟨q, hqe⟩ : ∃ q, q = l.idxOf ((l.length : Int) - 1) := ⟨_, rfl⟩
  have he := dropL_eq l h.1
  have hat := at_idx l _ htop
  rw [← hqe] at hq he hat
  have hq0 : q ≠ 0 := fun e => by rw [e, h.2] at hat; omega
  have hmem : ∀ y, y ∈ dropL l ↔ y ∈ l ∧ y ≠ (l.length : Int) - 1 := fun y => by simp [dropL]
  have hdt : Tell (dropL l) := by
    refine ⟨by rw [hl]; omega, by rw [hl]; have := h.1.2.1; omega, fun y hy => ?_, h.1.2.2.2.sublist List.filter_sublist⟩
    have h1 := (hmem y).1 hy
    have := h.1.2.2.1 y h1.1
    rw [hl]
    omega
  have hget : ∀ k, k < q → (dropL l).getD k 0 = l.getD k 0 := fun k hk => by
    rw [he, List.getD, List.getD, List.getElem?_append_left (by rw [List.length_take]; omega), List.getElem?_take, if_pos hk]
  refine ⟨⟨hdt, by rw [hget 0 (by omega)]; exact h.2⟩, hl, (dropL l).getD (q - 1) 0, getD_mem _ _ (by rw [hl]; omega), ?_⟩
  have hi := idxAt hdt.2.2.2 (i := q - 1) (by rw [hl]; omega)
  unfold putL
  rw [hi, show q - 1 + 1 = q by omega, hl, he]
  have e1 : (l.take q ++ l.drop (q + 1)).take q = l.take q := List.take_left' (by rw [List.length_take]; omega)
  have e2 : (l.take q ++ l.drop (q + 1)).drop q = l.drop (q + 1) := List.drop_left' (by rw [List.length_take]; omega)
  rw [e1, e2]
  have e3 : ((l.length - 1 : Nat) : Int) = l[q] := by
    rw [show ((l.length - 1 : Nat) : Int) = (l.length : Int) - 1 by omega, ← hat]
    simp [List.getD, hq]
  rw [e3, ← List.drop_eq_getElem_cons hq, List.take_append_drop]
theorem dropB_no {l : List Int} (h : ¬ dropB l = true) : dropB l = false := by simpa using h
/-- Has one of the first k points been found behind which l comes? -/
def foundN (d l : List Int) (k : Nat) : Bool := (List.range k).any fun y => putB d (y : Int) && decide (putR d (y : Int) = l)
theorem found_step (d l : List Int) (k : Nat) : foundN d l (k + 1) = (foundN d l k || (putB d (k : Int) && same (putR d (k : Int)) l)) := by
  simp [foundN, List.range_succ, same]
theorem found_end {d l : List Int} (h : Ring d) (h6 : d.length < 7) {x : Int} (hx : x ∈ d) (e : putL d x = l) : foundN d l d.length = true := by
  have hb := h.1.2.2.1 x hx
  have hp : putB d x = true := by rw [putB, hasB_of h hx]; simp; omega
  simp only [foundN, List.any_eq_true]
  refine ⟨x.toNat, List.mem_range.2 (by omega), ?_⟩
  rw [Int.toNat_of_nonneg hb.1, hp, putR, if_pos hp, e]
  simp
end Go.Proofs.YtmfilnpbkonfaaaDoor
