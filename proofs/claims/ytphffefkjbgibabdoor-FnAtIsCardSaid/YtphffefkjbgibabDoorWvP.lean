/- The program's parts of a list: those of its points that are in a set, in new memory with no room behind the end. -/
import Derived.Test.YtphffefkjbgibabDoorWvD
import Derived.Test.YtphffefkjbgibabDoorMA
import Derived.Test.YtphffefkjbgibabDoorAllR
namespace Go.Proofs.YtphffefkjbgibabDoor
open Go.ChangeShapes Go.WideShapes Go.ChangeAt Go.RowKit

theorem notHas_any (s : Nat) (x : Int) (g : Nat) (w : World) (hs : s < 128) (h0 : 0 ≤ x) (h7 : x < 7) (hc : w.cell? ⟨g, 0, none⟩ = some (.int .i64 (s : Int))) :
    Calls Tryd.prog 62 #[.int .i64 x, .pointer (some ⟨g, 0, none⟩)] w fun e w' => e = .returned (.bool (!hasN s x)) ∧ Below w.heap.size w w' := by
  have HC := Lib.hid (setHas_any s x w hs h0 h7)
  generalize hasN s x = r at *
  clear hs h0 h7
  go_enter Tryd.func62, Tryd.ntmps62
  go_wp2_with (refine HC.out.mono ?_; rintro e w5 ⟨rfl, rfl⟩)
  go_ret
  exact ⟨rfl, Below.refl _ _⟩

theorem own_cur {w : World} {B : Nat} {g n c : Nat} {l : List Int} (h : w.ownsRow B 3 1 (.slice (some ⟨g, 0, none⟩) n c) n (ints l)) : ∃ cur, w.heap[g]? = some (.cells cur 3 (0, 0)) ∧ n ≤ cur.size ∧ cur.size = c ∧ n ≤ c ∧ c ≤ maxLen ∧ B ≤ g := by
  rcases h.2 with ⟨e, _⟩ | ⟨g', cap, cur, e, hB, hg, hc, hm, hs, ht⟩
  · cases e
  · injection e with e1 e2 e3
    injection e1 with e1
    injection e1 with e1
    subst e1; subst e3
    exact ⟨cur, hg, by omega, by omega, hc, hm, hB⟩
/-- A list copied into a row of as many places. -/
theorem copy_all {ops : Array Oper} {rest : List Oper} {o : Oper} {a : Act} {w : World} {Q : Exit → Act → World → Prop} (hgd : o.guard = none) (d s : Operand)
    (ho : o.op = .call { callee := .builtin .copy, args := #[d, s], argTypes := #[23, 23] }) (B g n sCap : Nat) (zs l : List Int) (hl : l.length = n)
    (hown : Hid (w.ownsRow B 3 1 (.slice (some ⟨g, 0, none⟩) n n) n (ints zs)))
    (sp : Addr) (hd : a.eval d = .slice (some ⟨g, 0, none⟩) n n) (hs : a.eval s = .slice (some sp) n sCap) (hc : ∀ j, j < n → w.cell? (sp.add j) = some (.int .i64 (l.getD j 0)))
    (h : ∀ w', Hid (w'.ownsRow B 3 1 (.slice (some ⟨g, 0, none⟩) n n) n (ints l)) → w.grownBy w' (some g) → w'.heap.size = w.heap.size → wpList Tryd.prog ops Q rest (a.put o.dst (goInt n)) w') :
    wpList Tryd.prog ops Q (o :: rest) a w := by
  obtain ⟨cur, hg, _, hcs, _, hcm, hB⟩ := own_cur hown.out
  have hl' : (ints l).length = n := by simp [hl]
  have hh := wpList_copy_own hgd d s 23 23 ho 3 Tryd.underlying23 int_size g 0 n n sp n sCap hd hs cur 3 hg (ints l) (by rw [hl']; exact (Nat.min_self n).symm)
    (fun j v hv => by
      have hj : j < n := by
        have := (List.getElem?_eq_some_iff.1 hv).1
        omega
      rw [hc j hj, ← hv, ints_get _ _ (by omega)])
    (by rw [hl']; omega) (ints_oneCell _) (rest := rest) (Q := Q) (ops := ops) (P := Tryd.prog)
  rw [hl'] at hh
  have e : (cur.toList.take 0 ++ (ints l ++ cur.toList.drop (0 + n))) = ints l := by
    rw [List.drop_of_length_le (by rw [Array.length_toList]; omega)]; simp
  rw [e] at hh
  refine hh (h _ ?_ ?_ ?_)
  · refine ⟨by rw [hl']; omega, .inr ⟨g, n, (ints l).toArray, rfl, hB, setRow_heap w g _ _ _ _ hg, Nat.le_refl _, hcm, by simp [hl], ?_⟩⟩
    simp only [Nat.mul_one]
    exact List.take_of_length_le (by omega)
  · exact ⟨rfl, rfl, rfl, by simp, fun k _ hk => setRow_other w g k _ (fun e => hk (by simp [e]))⟩
  · simp

set_option maxRecDepth 10000 in
set_option maxHeartbeats 1000000 in
theorem partOf_any (A : Option Addr) (n c H s : Nat) (l : List Int) (w : World) (h : Rd w H A n l) (hH : H ≤ w.heap.size) (h1 : 1 ≤ n) (hn : n ≤ 7) (hp : ∀ x ∈ l, 0 ≤ x ∧ x < 7) (hs : s < 128) :
    Calls Tryd.prog 38 #[.slice A n c, .int .i64 (s : Int)] w fun e w' => ∃ v, e = .returned v ∧ RowV w' w.heap.size v (pickN s l) ∧ Below w.heap.size w w' := by
  obtain ⟨i0, hi, hz0, hz1, hz2⟩ := info_parts int_info
  have HL := Lib.hid h.len
  obtain ⟨W0, h0⟩ : ∃ W, W = w.alloc (.cells #[.int .i64 (s : Int)] 3) := ⟨_, rfl⟩
  have hbx : Hid (W0.cell? ⟨w.heap.size, 0, none⟩ = some (.int .i64 (s : Int))) := by
    rw [h0]; exact one_cell w _ _ 0 _ rfl
  have hb0 : Hid (Below w.heap.size w W0 ∧ W0.heap.size = w.heap.size + 1) := by
    rw [h0]; exact ⟨(Below.refl _ _).alloc (Nat.le_refl _) _, by simp⟩
  have hr0 := Lib.hid (h.below (hb0.out.1.mono hH))
  have HP := Lib.hid hp
  clear h hp
  go_enter Tryd.func38, Tryd.ntmps38
  go_wp2_with (at_make; rw [← h0]; refine wpList_make_full _ rfl _ _ 23 rfl W0.heap.size 3 i0 (.int .i64 0) 1 Tryd.underlying23 hi hz0 hz1 .i64 .i64 _ _ n rfl rfl rfl rfl (by rw [hz2]; omega) (by unfold maxLen; omega) (Nat.le_refl _) ?_)
  intro w1 hown hgrow
  rw [← h0] at hgrow
  clear h0
  have hb1 : Below W0.heap.size W0 w1 := (Below.refl _ _).grown hgrow (Nat.le_refl _) (by simp)
  have hbx1 : Hid (w1.cell? ⟨w.heap.size, 0, none⟩ = some (.int .i64 (s : Int))) := (hb1.cell (by have := hb0.out.2; simp; omega)).trans hbx.out
  have hr1 := Lib.hid (hr0.out.below (hb1.mono (by have := hb0.out.2; omega)))
  have HB1 := Lib.hid (hb0.out.1.trans (hb1.mono (by have := hb0.out.2; omega)))
  have ho1 : w1.ownsRow (w.heap.size + 1) 3 1 (.slice (some ⟨w.heap.size + 1, 0, none⟩) n n) n (ints (half l n 0)) := by
    have e : ints (half l n 0) = (madeCells #[Value.int IntKind.i64 0] n).toList := by
      rw [half_zero, toList_madeCells_one]
      simp [ints]
    rw [e]
    exact hown
  have hs1 := hb1.size
  rw [hb0.out.2] at hs1
  have hg0 : w.heap.size < w.heap.size + 1 := by omega
  have HO1 := Lib.hid ho1
  clear hown hgrow hbx hb0 hr0 hb1 ho1
  generalize w.heap.size + 1 = G at *
  obtain ⟨b, o, rfl, hbH, hcl⟩ := hr1.out.at_ (by omega)
  have HCL := Lib.hid hcl
  clear hcl hr1
  generalize half l n 0 = zs at *
  go_wp2_with (refine copy_all rfl (.tmp 10) (.tmp 11) rfl G G n c zs l HL.out HO1 ⟨b, o, none⟩ rfl rfl (fun j hj => by rw [Addr.add_lit]; exact HCL.out j hj) ?_; intro w2 HO2 hg2 hs2)
  have HB2 := Lib.hid (HB1.out.grown hg2 (by omega) (by simp; omega))
  have HX2 : Hid (w2.cell? ⟨w.heap.size, 0, none⟩ = some (.int .i64 (s : Int))) := (((Below.refl G w1).grown hg2 hs1 (by simp)).cell hg0).trans hbx1.out
  have hG2 : G ≤ w2.heap.size := by omega
  have HO2' : Hid (Own w2 G (.slice (some ⟨G, 0, none⟩) n n) l) := by
    have := HO2.out
    unfold Own
    rw [Hid, HL.out]; exact this
  have HF : Hid (∀ V, Below G w2 V → ∀ x ∈ l, Calls Tryd.prog 62 #[.int .i64 x, .pointer (some ⟨w.heap.size, 0, none⟩)] V fun e w' => e = .returned (.bool (!hasN s x)) ∧ Below V.heap.size V w') := fun V hV x hx =>
    notHas_any s x w.heap.size V hs (HP.out x hx).1 (HP.out x hx).2 ((hV.cell (p := ⟨w.heap.size, 0, none⟩) hg0).trans HX2.out)
  clear HO1 HB1 hbx1 HO2 hg2 HX2 HP HCL
  refine (deleteF_int 62 (enters_fn Tryd.func62 (by decide) rfl) (.pointer (some ⟨w.heap.size, 0, none⟩)) (fun x => !hasN s x) G _ l w2 HO2'.out hG2 (by rw [HL.out]; omega) HF.out).mono ?_
  rintro e w3 ⟨v3, rfl, ho3, hb3⟩
  have e3 : (l.filter fun x => !(!hasN s x)) = pickN s l := by simp [pickN]
  rw [e3] at ho3
  have hm : (pickN s l).length ≤ 7 := Nat.le_trans (List.length_filter_le _ _) (by rw [HL.out]; exact hn)
  have HB3 := Lib.hid (HB2.out.trans (hb3.mono (by omega)))
  obtain ⟨r, hr⟩ : ∃ r, r = pickN s l := ⟨_, rfl⟩
  rw [← hr] at ho3 hm
  have HRR := Lib.hid hr
  clear hr
  obtain ⟨z, hz⟩ : ∃ z, z = r.length := ⟨_, rfl⟩
  have hz7 : z ≤ 7 := by omega
  have HRW := Lib.hid ho3.rowV5
  clear hb3 HF HO2' HB2 hm
  obtain ⟨A3, c3, rfl, hzc, hcm⟩ := HRW.out.2
  have hrow : Hid (OwnG w3 w.heap.size (.slice A3 z z) r) := by
    rcases HRW.out.1 with ⟨e, rfl⟩ | ⟨g, o', c', cur, e, hB, hg, hcur⟩
    · injection e with e1 e2 e3'
      subst e1
      simp at hz
      subst hz
      exact .inl ⟨rfl, rfl⟩
    · injection e with e1 e2 e3'
      subst e1
      refine .inr ⟨g, o', z, cur, by rw [hz], by omega, hg, hcur⟩
  rw [← hz] at hzc ⊢
  have HZ := Lib.hid hz
  clear hz ho3 HRW
  go_wp2
  go_ret
  refine ⟨.slice A3 z z, rfl, ?_, HB3.out⟩
  rw [← HRR.out]
  exact ⟨hrow.out, A3, z, by rw [HZ.out], by rw [HZ.out]; exact Nat.le_refl _, by omega⟩
end Go.Proofs.YtphffefkjbgibabDoor
