/- A ring with a new point: the lists. -/
import Derived.Test.YtgjgpnmldlnmgaaWorld
namespace Go.Proofs.Ytgjgpnmldlnmgaa
open Go.ChangeShapes Go.WideShapes Go.ChangeAt Go.RowKit

/-- The list with the new greatest point just behind x. -/
def putL (l : List Int) (x : Int) : List Int := l.take (l.idxOf x + 1) ++ ((l.length : Int) :: l.drop (l.idxOf x + 1))
theorem putL_length (l : List Int) (x : Int) (hx : x ∈ l) : (putL l x).length = l.length + 1 := by
  have := List.idxOf_lt_length_of_mem hx
  simp [putL]; omega
theorem putL_pos (l : List Int) (x : Int) (h : ∀ y ∈ l, 0 ≤ y) : ∀ y ∈ putL l x, 0 ≤ y := fun y hy => by
  rcases List.mem_append.1 hy with hy | hy
  · exact h y (List.mem_of_mem_take hy)
  · rcases List.mem_cons.1 hy with rfl | hy
    · omega
    · exact h y (List.mem_of_mem_drop hy)
theorem putL_low (l : List Int) (x : Int) (k : Nat) (hk : k < l.length) (hs : k ≤ l.idxOf x) : (putL l x).getD k 0 = l.getD k 0 := by
  unfold putL
  simp only [List.getD]
  rw [List.getElem?_append_left (by simp; omega), List.getElem?_take, if_pos (by omega)]
theorem putL_mid (l : List Int) (x : Int) (hx : x ∈ l) : (putL l x).getD (l.idxOf x + 1) 0 = l.length := by
  have := List.idxOf_lt_length_of_mem hx
  unfold putL
  simp only [List.getD]
  rw [List.getElem?_append_right (by simp; omega)]
  have e : l.idxOf x + 1 - (l.take (l.idxOf x + 1)).length = 0 := by simp; omega
  rw [e]; simp
theorem putL_high (l : List Int) (x : Int) (k : Nat) (hx : x ∈ l) (_ : k < l.length) (hs : l.idxOf x < k) : (putL l x).getD (k + 1) 0 = l.getD k 0 := by
  have := List.idxOf_lt_length_of_mem hx
  unfold putL
  simp only [List.getD]
  rw [List.getElem?_append_right (by simp; omega)]
  have e : k + 1 - (l.take (l.idxOf x + 1)).length = (k - (l.idxOf x + 1)) + 1 := by simp; omega
  rw [e, List.getElem?_cons_succ, List.getElem?_drop, show l.idxOf x + 1 + (k - (l.idxOf x + 1)) = k by omega]
theorem at_only (l : List Int) (x : Int) (k : Nat) (hd : l.Nodup) (hk : k < l.length) (h : l.getD k 0 = x) : k = l.idxOf x := by
  have e : l[k] = x := by simpa [List.getD, hk] using h
  rw [← e, hd.idxOf_getElem]

theorem pad_put (l : List Int) (x : Int) (hx : x ∈ l) (h7 : l.length < 7) (s : Nat) (hs : s = l.idxOf x + 1) :
    ((padR l).take (s + 1) ++ (((padR l).drop s).take (6 - s) ++ (padR l).drop 7)).set s l.length = padR (putL l x) := by
  have hi := List.idxOf_lt_length_of_mem hx
  have hl := padR_length l (by omega)
  have e1 : ((padR l).drop s).take (6 - s) ++ (padR l).drop 7 = ((padR l).drop s).take (6 - s) := by
    have e0 : (padR l).drop 7 = [] := List.drop_of_length_le (by omega)
    rw [e0, List.append_nil]
  rw [e1]
  have e2 : (padR l).take (s + 1) = (padR l).take s ++ [(padR l).getD s 0] := by
    rw [List.take_succ_eq_append_getElem (by omega)]
    simp [List.getD, show s < (padR l).length by omega]
  rw [e2, List.append_assoc, List.set_append_right _ _ (by simp; omega)]
  have e3 : s - ((padR l).take s).length = 0 := by simp; omega
  rw [e3]
  simp only [List.cons_append, List.nil_append, List.set_cons_zero]
  unfold padR putL
  rw [← hs, List.take_append_of_le_length (by omega), List.drop_append_of_le_length (by omega), List.append_assoc]
  congr 1
  rw [List.cons_append]
  congr 1
  rw [List.take_append]
  have e4 : (l.drop s).take (6 - s) = l.drop s := List.take_of_length_le (by simp; omega)
  rw [e4, List.take_replicate]
  congr 2
  simp
  omega

set_option maxRecDepth 10000 in
set_option maxHeartbeats 1000000 in
theorem put_any (l : List Int) (x : Int) (w : World) (h : Tell l) (hx : x ∈ l) (h6 : l.length < 7) :
    Calls Try.prog 89 #[agp l, .int .i64 x] w fun e w' => e = .returned (agp (putL l x)) ∧ Below w.heap.size w w' := by
  have hl := h.2.1
  have h3 := h.1
  obtain ⟨a0, a1, a2, a3, a4, a5, a6, hP⟩ := seven (padR_length l hl)
  have HS := fun W => Lib.hid (size_any l W hl h.pos)
  have HPL := fun W => Lib.hid (place_any l x W hl hx)
  have hs := List.idxOf_lt_length_of_mem hx
  have hpd := pad_put l x hx h6 _ rfl
  unfold agp at HS HPL ⊢
  rw [hP] at HS HPL hpd ⊢
  simp only [ints, List.map_cons, List.map_nil] at HS HPL ⊢
  have HSS := Lib.hid HS
  have HPP := Lib.hid HPL
  have HPD := Lib.hid hpd
  have hD : (padR (putL l x)).length = 7 := padR_length _ (by rw [putL_length l x hx]; omega)
  have HD := Lib.hid hD
  clear HS HPL hpd hP h hx hD
  generalize l.length = n at *
  generalize l.idxOf x = p at *
  generalize padR (putL l x) = D at *
  have hw0 : IntKind.i64.wrap ((p : Int) + 1) = (p : Int) + 1 := IntWalk.i64_in _ (by omega)
  go_enter Try.func89, Try.ntmps89
  go_wp2
  go_region_with (first
    | (go_at_call 92; refine ((HSS.out _).out).mono ?_; rintro e w' ⟨rfl, rfl⟩)
    | (go_at_call 93; refine ((HPP.out _).out).mono ?_; rintro e w' ⟨rfl, rfl⟩))
  all_goals
    obtain ⟨W, hW⟩ : ∃ W, W = ((((w.alloc (.cells #[.int .i64 a0, .int .i64 a1, .int .i64 a2, .int .i64 a3, .int .i64 a4, .int .i64 a5, .int .i64 a6] 49)).alloc (.cells #[.int .i64 0, .int .i64 0, .int .i64 0, .int .i64 0, .int .i64 0, .int .i64 0, .int .i64 0] 49)).alloc (.cells #[.int .i64 a0, .int .i64 a1, .int .i64 a2, .int .i64 a3, .int .i64 a4, .int .i64 a5, .int .i64 a6] 49)).alloc (.cells #[.int .i64 a0, .int .i64 a1, .int .i64 a2, .int .i64 a3, .int .i64 a4, .int .i64 a5, .int .i64 a6] 49)).drew := ⟨_, rfl⟩
    rw [← hW]
    obtain ⟨k1, k2, k3, k4⟩ := cut_world w _ _ [a0, a1, a2, a3, a4, a5, a6] zero7 rfl rfl W hW
    have HB := Lib.hid k1
    have HR := Lib.hid k2
    have HK := Lib.hid k3
    clear k1 k2 k3 hW HSS HPP
    generalize hB : w.heap.size = B at *
    have HBB := Lib.hid hB
    clear hB
    have hBW : B + 1 < W.heap.size := by omega
    clear k4
    obtain ⟨ad1, had1, hs1⟩ := slice_ring3 W.drew B (p + 1 + 1) (by omega)
    obtain ⟨ad2, had2, hs2⟩ := slice_ring3 W.drew B (p + 1) (by omega)
    rw [show (((p + 1 + 1 : Nat)) : Int) = (p : Int) + 1 + 1 by omega] at hs1
    rw [show (((p + 1 : Nat)) : Int) = (p : Int) + 1 by omega] at hs2
    have HAD1 := Lib.hid had1
    have HAD2 := Lib.hid had2
    have hw1 : IntKind.i64.wrap ((p : Int) + 1 + 1) = (p : Int) + 1 + 1 := IntWalk.i64_in _ (by omega)
    clear had1 had2
    go_wp2
    go_still_tail 5, (by kernel_rfl)
    change wpList _ _ _ _ _ W.drew
    refine copy_ring rfl (.tmp 15) (.tmp 17) rfl B (p + 1 + 1) (p + 1) (5 - p) [a0, a1, a2, a3, a4, a5, a6] rfl ad1 ad2 _ _ _ _ rfl rfl ?_ ?_ (by omega) (by omega) (w := W.drew) (Lib.hid HB.out.drew) ?_
    · show 5 - p = Nat.min (6 - p) (5 - p)
      exact (Nat.min_eq_right (by omega)).symm
    · intro hpos
      exact ⟨HAD1.out (by omega), HAD2.out (by omega)⟩
    · intro w2 HG2 hg2 hs2'
      have HR2 := Lib.hid (HR.out.drew.grown hg2 (by omega))
      have hb2 := Lib.hid (HK.out.drew.grown hg2 (by simp; omega) (by simp))
      rw [show p + 1 + 1 + (5 - p) = 7 by omega] at HG2
      rw [show 6 - (p + 1) = 5 - p by omega] at HPD
      have h7 : (List.take (p + 1 + 1) [a0, a1, a2, a3, a4, a5, a6] ++ (List.take (5 - p) (List.drop (p + 1) [a0, a1, a2, a3, a4, a5, a6]) ++ List.drop 7 [a0, a1, a2, a3, a4, a5, a6])).length = 7 := by simp; omega
      have hc6 := HG2.out.cell (i := p + 1) (by rw [h7]; omega)
      have hf6 := HG2.out.frozen (p + 1)
      have hst := HG2.out.set_ (p + 1) (n : Int)
      rw [HPD.out] at hst
      have HST := Lib.hid hst
      have HR3 := Lib.hid (HR2.out.far (p := ⟨B, p + 1, none⟩) (by simp) (.int .i64 (n : Int)))
      have hb3 := Lib.hid (hb2.out.setCell (p := ⟨B, p + 1, none⟩) (by simp) (.int .i64 (n : Int)))
      have hs3 := HR3.out.lt
      clear hst h7 HG2 HR2 hg2 hs2' hs1 hs2 hw1 hw0
      generalize (List.take (p + 1 + 1) [a0, a1, a2, a3, a4, a5, a6] ++ (List.take (5 - p) (List.drop (p + 1) [a0, a1, a2, a3, a4, a5, a6]) ++ List.drop 7 [a0, a1, a2, a3, a4, a5, a6])).getD (p + 1) 0 = old at *
      go_wp2_with (first
        | (refine load_ring rfl _ rfl B D HD.out rfl HST ?_)
        | (refine store_ring rfl _ _ rfl (B + 1) zero7 D rfl HD.out rfl rfl HR3 ?_; intro w6 HB6 hg6 _))
      try simp only [Exit.inBlock, Exit.then]
      exact ret_ring rfl (B + 1) D HD.out rfl HB6 rfl ⟨rfl, by rw [HBB.out]; exact hb3.out.grown hg6 (by omega) (by simp)⟩
end Go.Proofs.Ytgjgpnmldlnmgaa
