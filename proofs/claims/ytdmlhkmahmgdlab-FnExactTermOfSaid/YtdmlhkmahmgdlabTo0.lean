/- Strings joined and put in brackets: out of the texts on terms. -/
import Derived.Test.YtdmlhkmahmgdlabTmY
import Derived.Test.YtdmlhkmahmgdlabTmJ
import Derived.Test.YtdmlhkmahmgdlabFold
namespace Go.Proofs.Ytdmlhkmahmgdlab
open Go.ChangeShapes Go.WideShapes Go.ChangeAt Go.RowKit

/-- A row is handed back. -/
def RowQ (l : List UInt8) (w : World) (e : Ending) (w' : World) : Prop := e = .returned (.string (bs l)) ∧ Below w.heap.size w w'
/-- Block g has n strings; the first ones are those of L. -/
def RowS (w : World) (g n : Nat) (L : List (List UInt8)) : Prop :=
  ∃ cur, w.heap[g]? = some (.cells cur 9 (0, 0)) ∧ cur.size = n ∧ ∀ j (hj : j < L.length), cur[j]? = some (.string (bs L[j]))
section
variable {w w' : World} {g n D : Nat} {L : List (List UInt8)}
theorem RowS.lt (h : RowS w g n L) : g < w.heap.size := by obtain ⟨cur, hg, _⟩ := h; exact (Array.getElem?_eq_some_iff.1 hg).1
theorem RowS.below (h : RowS w g n L) (hb : Below D w w') (hD : g < D) : RowS w' g n L := by
  obtain ⟨cur, hg, hs, hr⟩ := h
  exact ⟨cur, (hb.block g hD).trans hg, hs, hr⟩
theorem RowS.cell (h : RowS w g n L) {j : Nat} (hj : j < n) : ∃ u, w.cell? ⟨g, j, none⟩ = some u := by
  obtain ⟨cur, hg, hs, hr⟩ := h
  refine ⟨cur[j]'(by omega), ?_⟩
  rw [cell_of_row w g j cur _ _ hg]
  exact Array.getElem?_eq_getElem (by omega)
theorem RowS.frozen (h : RowS w g n L) (j : Nat) : w.frozen? ⟨g, j, none⟩ = false := by
  obtain ⟨cur, hg, hs, hr⟩ := h
  exact frozen_of_row w g j cur _ hg
theorem RowS.at_ (h : RowS w g n L) {j : Nat} (hj : j < L.length) : w.cell? ⟨g, j, none⟩ = some (.string (bs L[j])) := by
  obtain ⟨cur, hg, hs, hr⟩ := h
  rw [cell_of_row w g j cur _ _ hg]
  exact hr j hj
theorem RowS.step (h : RowS w g n L) (hL : L.length < n) (l : List UInt8) : RowS (w.setCell ⟨g, L.length, none⟩ (.string (bs l))) g n (L ++ [l]) := by
  obtain ⟨cur, hg, hs, hr⟩ := h
  refine ⟨cur.setIfInBounds L.length (.string (bs l)), heap_setCell_same w g _ cur _ _ hg, by simpa using hs, fun j hj => ?_⟩
  simp at hj
  rw [Array.getElem?_setIfInBounds]
  by_cases e : L.length = j
  · subst e; rw [if_pos rfl, if_pos (by omega)]; simp
  · rw [if_neg e, hr j (by omega)]; simp [List.getElem_append_left (show j < L.length by omega)]
end
theorem str_info : (Try.prog.info? 9).map (fun i => (i.zero, i.size, i.bytes)) = some (some (.string ⟨#[]⟩), 1, 16) := by kernel_rfl

theorem join_flat (L : List (List UInt8)) : Lib.join L [] = L.flatten := by
  unfold Lib.join
  induction L with
  | nil => rfl
  | cons a L ih => cases L with
    | nil => simp [List.intercalate]
    | cons b L => simp [List.intercalate, List.intersperse] at ih ⊢; exact ih
theorem join_any (g n c : Nat) (L : List (List UInt8)) (w : World) (h : RowS w g n L) (hL : L.length = n) (hn : n ≤ 1048576) (hc : n ≤ c) (hl : L.flatten.length ≤ 1048576) :
    Calls Try.prog 17 #[.slice (some ⟨g, 0, none⟩) n c, .string ⟨#[]⟩] w (RowQ L.flatten w) := by
  subst hL
  have e1 : (L.map bs).map (fun x => x.data.toList) = L := by rw [List.map_map]; exact (List.map_congr_left fun a _ => bs_list a).trans (List.map_id L)
  have := Any.strings_Join Try.lays156 Try.extra156 g 0 c (L.map bs) ⟨#[]⟩ w (fun j x hx => by
      rw [Nat.zero_add]
      obtain ⟨hj, e⟩ := List.getElem?_eq_some_iff.1 hx
      have hj' : j < L.length := by simpa using hj
      rw [h.at_ hj', ← e]
      simp) h.lt (by simp; omega) (by simpa using hc) (by rw [e1]; show (Lib.join L []).length ≤ _; rw [join_flat]; omega)
  rw [e1, List.length_map] at this
  refine this.mono fun e w' ⟨he, hb⟩ => ⟨?_, hb⟩
  rw [he]
  show _ = Ending.returned (.string (bs L.flatten))
  rw [← join_flat]
  rfl

theorem bs_app (a b : List UInt8) : bs a ++ bs b = bs (a ++ b) := by
  apply ByteArray.ext
  simp [bs]
/-- A string and whether there is one. -/
def StrQ (l : List UInt8) (ok : Bool) (w : World) (e : Ending) (w' : World) : Prop := e = .returned (.tuple #[.string (bs l), .bool ok]) ∧ Below w.heap.size w w'
theorem bs_nil : (⟨#[]⟩ : ByteArray) = bs [] := rfl

theorem brk_app (l : List UInt8) : (⟨#[40]⟩ : ByteArray) ++ bs l ++ ⟨#[41]⟩ = bs (40 :: (l ++ [41])) := by
  have e1 : (⟨#[40]⟩ : ByteArray) = bs [40] := rfl
  have e2 : (⟨#[41]⟩ : ByteArray) = bs [41] := rfl
  rw [e1, e2, bs_app, bs_app]
  rfl
/-- Texts of terms in brackets. -/
theorem brk_any (g n c : Nat) (L : List (List UInt8)) (w : World) (h : RowS w g n L) (hL : L.length = n) (hn : n ≤ 1048576) (hc : n ≤ c) (hl : L.flatten.length ≤ 1048576) :
    Calls Try.prog 10 #[.slice (some ⟨g, 0, none⟩) n c] w (RowQ (40 :: (L.flatten ++ [41])) w) := by
  have HJ := Lib.hid (join_any g n c L w h hL hn hc hl)
  obtain ⟨q, hq⟩ : ∃ q, q = bs L.flatten := ⟨_, rfl⟩
  have hqs : q.size ≤ 1048576 := by rw [hq, bs_size]; exact hl
  have HQ := Lib.hid hq
  clear hq h hL hl
  go_enter Try.func10, Try.ntmps10
  go_wp2_with (go_at_call 17; refine HJ.out.mono ?_; rintro e w1 ⟨rfl, hb1⟩; rw [← HQ.out])
  go_ret
  exact ⟨by rw [← brk_app, ← HQ.out]; rfl, hb1⟩
theorem one_row (W : World) (l : List UInt8) : RowS (W.alloc (.cells #[.string (bs l)] 9)) W.heap.size 1 [l] :=
  ⟨_, heap_alloc_new W _, rfl, fun j hj => by obtain rfl : j = 0 := by simp at hj; omega
                                              rfl⟩
abbrev ring0 : Obj := .cells #[.int .i64 0, .int .i64 0, .int .i64 0, .int .i64 0, .int .i64 0, .int .i64 0, .int .i64 0] 30
/-- A ring stored into the result's variable. -/
theorem put_ring {w W : World} {Q : List Int} (hb : Below (w.heap.size + 1) (w.alloc ring0) W) (hQ : Q.length = 7) :
    ∃ W', (stR ⟨w.heap.size, 0, none⟩ (.agg (ints Q).toArray)).run Try.prog W = .ok () W' ∧ Hid (Arr W' w.heap.size Q) ∧ Hid (Below w.heap.size w W') ∧ W.grownBy W' (some w.heap.size) ∧ W'.heap.size = W.heap.size := by
  have h1 : Arr W w.heap.size zero7 := (new_ring w).below hb (by omega)
  obtain ⟨W', r, a, g, s⟩ := stR_run (Q := Q) h1 rfl hQ
  have hs := hb.size
  simp at hs
  exact ⟨W', r, a, (((Below.refl w.heap.size w).alloc (Nat.le_refl _) _).trans (hb.mono (by omega))).grown g (by omega) (by simp), g, s⟩

/-- A new variable with a ring in it. -/
theorem put7 (W : World) (q0 q1 q2 q3 q4 q5 q6 : Int) : ∃ W', (stR ⟨W.heap.size, 0, none⟩ (ag q0 q1 q2 q3 q4 q5 q6)).run Try.prog (W.alloc ring0) = .ok () W' ∧ Hid (Arr W' W.heap.size [q0, q1, q2, q3, q4, q5, q6]) ∧ Hid (Below W.heap.size W W') := by
  obtain ⟨W', r, a, b, _, _⟩ := put_ring (w := W) (W := W.alloc ring0) (Q := [q0, q1, q2, q3, q4, q5, q6]) (by simpa using Below.refl (W.heap.size + 1) (W.alloc ring0)) rfl
  exact ⟨W', r, a, b⟩
end Go.Proofs.Ytdmlhkmahmgdlab
