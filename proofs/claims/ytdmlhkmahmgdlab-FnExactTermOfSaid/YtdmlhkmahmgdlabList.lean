/- Lists that the model and the program make: a list cut at a point, an array's list. -/
import Derived.Test.YtdmlhkmahmgdlabRing
import Derived.Maps.AppendAt
import Derived.Lib.SliceRun
namespace Go.Proofs.Ytdmlhkmahmgdlab
open Go.ChangeShapes Go.WideShapes Go.ChangeAt Go.RowKit

theorem own_empty (w : World) (B : Nat) (hB : B ≤ w.heap.size) : Own (w.alloc (.cells #[] 3)) B (.slice (some ⟨w.heap.size, 0, none⟩) 0 0) [] :=
  World.ownsRow_lit w #[] 0 hB (by unfold maxLen; omega) rfl

theorem own_less {w : World} {B B' : Nat} {v : Value} {l : List Int} (h : Own w B v l) (hB : B' ≤ B) : Own w B' v l := by
  refine ⟨h.1, ?_⟩
  rcases h.2 with h | ⟨g, cap, cur, hv, hg, r⟩
  · exact .inl h
  · exact .inr ⟨g, cap, cur, hv, Nat.le_trans hB hg, r⟩

theorem own_below {w w' : World} {B : Nat} {v : Value} {k : Nat} {xs : List Value} {a : World} {o : Obj} (hown : w.ownsRow B 3 1 v k xs) (hb : Below B a w) (hB : B ≤ w.heap.size)
    (hg : (w.alloc o).grownBy w' v.ownBlock) : Below B a w' :=
  (hb.alloc hB o).grown hg (by simp; omega) fun k hk => (hown.lt k hk).1

theorem one_cell (w : World) (y : Value) (t : TypeId) : ∀ j u, [y][j]? = some u → (w.alloc (.cells #[y] t)).cell? ((⟨w.heap.size, 0, none⟩ : Addr).add j) = some u := cell_one_new w y t

theorem take_snoc (l : List Int) (k : Nat) (h : k < l.length) : ints (l.take k) ++ [.int .i64 (l.getD k 0)] = ints (l.take (k + 1)) := by
  rw [List.take_succ_eq_append_getElem h, ints, ints, List.map_append]
  simp [List.getD, h]

theorem rd_cells {w : World} {H b o n : Nat} {l : List Int} (h : Rd w H (some ⟨b, o, none⟩) n l) : ∀ j u, (ints l)[j]? = some u → w.cell? ((⟨b, o, none⟩ : Addr).add j) = some u := by
  intro j u hu
  have hj : j < l.length := by
    have := (List.getElem?_eq_some_iff.1 hu).1
    simpa using this
  have hn : j < n := by rw [← h.len]; exact hj
  obtain ⟨b', o', e, _, hc⟩ := h.at_ (by omega)
  injection e with e
  injection e with e1 e2 _
  subst e1; subst e2
  rw [Addr.add_lit, hc j hn, ← hu, ints_get _ _ hj]

set_option maxHeartbeats 1000000 in
theorem clone_any (b o n c H : Nat) (l : List Int) (w : World) (h : Rd w H (some ⟨b, o, none⟩) n l) (hH : H ≤ w.heap.size) (hn : n ≤ 1048576) :
    Calls Try.prog 18 #[.slice (some ⟨b, o, none⟩) n c] w fun e w' => ∃ v, e = .returned v ∧ Own w' w.heap.size v l ∧ Below w.heap.size w w' := by
  obtain ⟨i0, hi, hz0, hz1, hz2⟩ := info_parts int_info
  have HL := Lib.hid h.len
  have HR := Lib.hid (h.alloc hH (.cells #[] 3))
  have ho0 := Lib.hid (own_empty w _ (Nat.le_refl _))
  have hnil := fun (w : World) => Lib.run_eql_slice_nil (P := Try.prog) w 22 _ (some ⟨b, o, none⟩) n c 0 0 Try.underlying22
  clear h
  go_enter Try.func18, Try.ntmps18
  go_wp2_with (at_builtin; refine wpList_append_own _ rfl _ _ 22 rfl w.heap.size 3 i0 (.int .i64 0) 1 8 Try.underlying22 hi hz0 hz1 hz2 rfl (by decide) _ _ _ rfl ho0.out ⟨b, o, none⟩ n c (ints l) rfl (by simp [HL.out]) (rd_cells HR.out) (ints_oneCell l) (by unfold maxLen; simp; omega) (by simp; omega) (by simp) ?_)
  intro v' w1 hown' hgrow _
  have hb : Below w.heap.size w w1 := ((Below.refl _ _).alloc (Nat.le_refl _) _).grown hgrow (by simp) (by simp [Value.ownBlock])
  have HO : Hid (Own w1 w.heap.size v' l) := by
    unfold Own
    rw [HL.out]
    exact hown'
  clear hown' hgrow
  go_wp2
  go_ret
  exact ⟨_, rfl, HO, hb⟩

/-- A cut of an array up to a length. -/
theorem slice_ring (W : World) (b n : Nat) (hn : n ≤ 7) :
    (Instr.sliceAt 30 (.pointer (some ⟨b, 0, none⟩)) none (some (.int .i64 (n : Int))) none).run Try.prog W = .ok (.slice (some ⟨b, 0, none⟩) n 7) W := by
  obtain ⟨i, hi, _, hs, _⟩ := info_parts int_info
  have hal : Try.prog.arrayLen 30 = 7 := by kernel_rfl
  have hel : Try.prog.elem 30 = 3 := by kernel_rfl
  have h := run_sliceAt_array_h (P := Try.prog) W 30 ⟨b, 0, none⟩ (by rw [hal, hel]; exact Try.underlying30) .i64 (n : Int) (by omega) (by rw [hal]; omega)
  rw [h, hel, run_sizeOf W hi, Result.andThen_ok, hal]
  simp [slicedAt, Addr.add]

/-- The list of an array. -/
theorem list_any (l : List Int) (w : World) (h1 : 1 ≤ l.length) (hl : l.length ≤ 7) (hp : ∀ x ∈ l, 0 ≤ x) :
    Calls Try.prog 12 #[agp l] w fun e w' => ∃ v, e = .returned v ∧ Own w' w.heap.size v l ∧ Below w.heap.size w w' := by
  obtain ⟨a0, a1, a2, a3, a4, a5, a6, hP⟩ := seven (padR_length l hl)
  have HS := fun W => Lib.hid (size_any l W hl hp)
  have hga : ∀ k, k < l.length → ([a0, a1, a2, a3, a4, a5, a6] : List Int).getD k 0 = l.getD k 0 := fun k hk => by rw [← hP]; exact padR_get l k hk
  unfold agp at HS ⊢
  rw [hP] at HS ⊢
  simp only [ints, List.map_cons, List.map_nil] at HS ⊢
  have HS2 := Lib.hid HS
  have HGA := Lib.hid hga
  clear hga hP HS hp
  have hcl := fun W c H hR hH => Lib.hid (clone_any w.heap.size 0 l.length c H l W hR hH (by omega))
  have HCL := Lib.hid hcl
  clear hcl
  generalize hn : l.length = n at *
  have HN := Lib.hid hn
  clear hn
  have hsl := fun W => slice_ring W w.heap.size n hl
  go_enter Try.func12, Try.ntmps12
  go_wp2_with (go_at_call 19; refine ((HS2.out _).out).mono ?_; rintro e w' ⟨rfl, rfl⟩)
  have hR : Rd ((w.alloc (.cells #[.int .i64 a0, .int .i64 a1, .int .i64 a2, .int .i64 a3, .int .i64 a4, .int .i64 a5, .int .i64 a6] 30)).alloc (.cells #[.int .i64 a0, .int .i64 a1, .int .i64 a2, .int .i64 a3, .int .i64 a4, .int .i64 a5, .int .i64 a6] 30)) (w.heap.size + 1) (some ⟨w.heap.size, 0, none⟩) n l := by
    refine ⟨HN.out, fun _ => ⟨_, _, rfl, by omega, fun k hk => ?_⟩⟩
    have ha : Arr (w.alloc (.cells #[.int .i64 a0, .int .i64 a1, .int .i64 a2, .int .i64 a3, .int .i64 a4, .int .i64 a5, .int .i64 a6] 30)) w.heap.size [a0, a1, a2, a3, a4, a5, a6] := heap_alloc_new w _
    have := (ha.alloc (.cells #[.int .i64 a0, .int .i64 a1, .int .i64 a2, .int .i64 a3, .int .i64 a4, .int .i64 a5, .int .i64 a6] 30)).cell (i := k) (by simp; omega)
    rw [HGA.out k hk] at this
    rw [Nat.zero_add]
    exact this
  refine ((HCL.out _ 7 _ hR (by simp)).out).mono ?_
  rintro e w1 ⟨v, rfl, ho, hb⟩
  clear hsl hR
  have HO := Lib.hid (own_less ho (show w.heap.size ≤ _ by simp; omega))
  have HB := Lib.hid ((((Below.refl _ w).alloc (Nat.le_refl _) _).alloc (by simp) _).trans (hb.mono (show w.heap.size ≤ _ by simp; omega)))
  clear ho hb
  go_wp2
  go_ret
  exact ⟨_, rfl, HO.out, HB.out⟩
end Go.Proofs.Ytdmlhkmahmgdlab
