/- Where a number stands in a list: slices.Index, slices.Contains, the array's place, the model's place. -/
import Derived.Test.YtjpbmhlojpaieaaDoorArr
namespace Go.Proofs.YtjpbmhlojpaieaaDoor
open Go.ChangeShapes Go.WideShapes Go.ChangeAt Go.RowKit

theorem not_mem_take_step (l : List Int) (k : Nat) (x : Int) (hk : k < l.length) (h : x ∉ l.take k) (hx : l.getD k 0 ≠ x) : x ∉ l.take (k + 1) := by
  rw [List.take_succ_eq_append_getElem hk, List.mem_append]
  rintro (h' | h')
  · exact h h'
  · simp [List.getD, hk] at hx
    simp at h'
    exact hx h'.symm
theorem idx_at (l : List Int) (k : Nat) (x : Int) (hk : k < l.length) (h : x ∉ l.take k) (hx : l.getD k 0 = x) : l.idxOf x = k := by
  have e : l = l.take k ++ (x :: l.drop (k + 1)) := by
    conv => lhs; rw [← List.take_append_drop k l, List.drop_eq_getElem_cons hk]
    simp [List.getD, hk] at hx
    rw [hx]
  rw [e, List.idxOf_append, if_neg h, List.idxOf_cons_self]
  simp; omega
theorem getD_mem (l : List Int) (k : Nat) (hk : k < l.length) : l.getD k 0 ∈ l := by
  simp [List.getD, hk]

set_option maxHeartbeats 400000 in
theorem index_any (A : Option Addr) (n c H : Nat) (l : List Int) (x : Int) (w : World) (h : Rd w H A n l) (hn : n ≤ 1048576) :
    Calls Tryd.prog 95 #[.slice A n c, .int .i64 x] w fun e w' => e = .returned (.int .i64 (if x ∈ l then (l.idxOf x : Int) else -1)) ∧ w = w' := by
  have HL := Lib.hid h.len
  obtain ⟨r, hr⟩ : ∃ r : Int, r = (if x ∈ l then (l.idxOf x : Int) else -1) := ⟨_, rfl⟩
  rw [← hr]
  have HR := Lib.hid hr
  clear hr
  go_enter Tryd.func95, Tryd.ntmps95
  go_wp2
  go_loop [8] (fun i => ∃ k : Nat, k ≤ n ∧ i = .int .i64 k ∧ Hid (x ∉ l.take k)) (fun i => n - (intOf i).toNat)
  case atStart => exact ⟨0, Nat.zero_le _, rfl, by simp [Hid]⟩
  case round =>
    obtain ⟨k, hk, rfl, hnot⟩ := hrel
    by_cases hlt : k < n
    · obtain ⟨b, o, rfl, hbH, hcs⟩ := h.at_ (by omega)
      have hc := hcs k hlt
      clear hcs
      have T1 : Hid (l.getD k 0 ≠ x → x ∉ l.take (k + 1)) := not_mem_take_step l k x (by rw [HL.out]; exact hlt) hnot.out
      have T2 : Hid (l.getD k 0 = x → l.idxOf x = k ∧ x ∈ l) := fun e => ⟨idx_at l k x (by rw [HL.out]; exact hlt) hnot.out e, e ▸ getD_mem l k (by rw [HL.out]; exact hlt)⟩
      generalize l.getD k 0 = y at hc T1 T2
      by_cases hxy : x = y
      · have hb : (x == y) = true := by simp [hxy]
        have T3 := Lib.hid (T2.out hxy.symm)
        clear hxy T1 T2
        go_wp2
        go_ret
        exact ⟨by rw [HR.out, if_pos T3.out.2, T3.out.1]; rfl, rfl⟩
      · have hb : (x == y) = false := by simp [hxy]
        have T3 := Lib.hid (T1.out (Ne.symm hxy))
        clear hxy T1 T2
        go_wp2
        go_round
        case rel => exact ⟨k + 1, by omega, by go_num, T3⟩
        case measure => simp [intOf]; omega
    · go_wp2
      go_ret
      obtain rfl : k = n := by omega
      have := hnot.out
      rw [List.take_of_length_le (by rw [HL.out]; omega)] at this
      exact ⟨by rw [HR.out, if_neg this]; rfl, rfl⟩

theorem contains_any (A : Option Addr) (n c H : Nat) (l : List Int) (x : Int) (w : World) (h : Rd w H A n l) (hn : n ≤ 1048576) :
    Calls Tryd.prog 80 #[.slice A n c, .int .i64 x] w fun e w' => e = .returned (.bool (decide (x ∈ l))) ∧ w = w' := by
  have hi := index_any A n c H l x
  by_cases hm : x ∈ l
  · simp only [if_pos hm] at hi
    have hd : decide (x ∈ l) = true := by simpa using hm
    rw [hd]
    generalize l.idxOf x = q at hi
    have HI := Lib.hid hi
    clear hi hm hd
    go_enter Tryd.func80, Tryd.ntmps80
    go_wp2_with (go_at_call 95; refine (HI.out _ h hn).mono ?_; rintro e w' ⟨rfl, rfl⟩)
    go_ret
    exact ⟨rfl, rfl⟩
  · simp only [if_neg hm] at hi
    have hd : decide (x ∈ l) = false := by simpa using hm
    rw [hd]
    have HI := Lib.hid hi
    clear hi hm hd
    go_enter Tryd.func80, Tryd.ntmps80
    go_wp2_with (go_at_call 95; refine (HI.out _ h hn).mono ?_; rintro e w' ⟨rfl, rfl⟩)
    go_ret
    exact ⟨rfl, rfl⟩

set_option maxHeartbeats 400000 in
theorem at_any (A : Option Addr) (n c H : Nat) (l : List Int) (x : Int) (w : World) (h : Rd w H A n l) (hn : n ≤ 1048576) (hm : x ∈ l) :
    Calls Tryd.prog 69 #[.slice A n c, .int .i64 x] w fun e w' => e = .returned (.int .i64 (l.idxOf x)) ∧ w = w' := by
  have HL := Lib.hid h.len
  have HM := Lib.hid hm
  obtain ⟨r, hr⟩ : ∃ r : Nat, r = l.idxOf x := ⟨_, rfl⟩
  rw [← hr]
  have HR := Lib.hid hr
  clear hr hm
  go_enter Tryd.func69, Tryd.ntmps69
  go_wp2
  go_loop [5] (fun i => ∃ k : Nat, k ≤ n ∧ i = .int .i64 k ∧ Hid (x ∉ l.take k)) (fun i => n - (intOf i).toNat)
  case atStart => exact ⟨0, Nat.zero_le _, rfl, by simp [Hid]⟩
  case round =>
    obtain ⟨k, hk, rfl, hnot⟩ := hrel
    by_cases hlt : k < n
    · obtain ⟨b, o, rfl, hbH, hcs⟩ := h.at_ (by omega)
      have hc := hcs k hlt
      clear hcs
      have T1 : Hid (l.getD k 0 ≠ x → x ∉ l.take (k + 1)) := not_mem_take_step l k x (by rw [HL.out]; exact hlt) hnot.out
      have T2 : Hid (l.getD k 0 = x → l.idxOf x = k) := fun e => idx_at l k x (by rw [HL.out]; exact hlt) hnot.out e
      generalize l.getD k 0 = y at hc T1 T2
      by_cases hxy : y = x
      · have hb : (y == x) = true := by simp [hxy]
        have T3 := Lib.hid (T2.out hxy)
        clear hxy T1 T2
        go_wp2
        go_ret
        exact ⟨by rw [HR.out, T3.out]; rfl, rfl⟩
      · have hb : (y == x) = false := by simp [hxy]
        have T3 := Lib.hid (T1.out hxy)
        clear hxy T1 T2
        go_wp2
        go_round
        case rel => exact ⟨k + 1, by omega, by go_num, T3⟩
        case measure => simp [intOf]; omega
    · exfalso
      obtain rfl : k = n := by omega
      have := hnot.out
      rw [List.take_of_length_le (by rw [HL.out]; omega)] at this
      exact this HM.out

theorem idx_pad (l : List Int) (x : Int) (h : x ∈ l) : x ∈ padR l ∧ (padR l).idxOf x = l.idxOf x := by
  refine ⟨by simp [padR, h], ?_⟩
  unfold padR
  rw [List.idxOf_append, if_pos h]

theorem place_any (l : List Int) (x : Int) (w : World) (hl : l.length ≤ 7) (hm : x ∈ l) :
    Calls Tryd.prog 77 #[agp l, .int .i64 x] w fun e w' => e = .returned (.int .i64 (l.idxOf x)) ∧ w' = w.alloc (.cells (ints (padR l)).toArray 39) := by
  have hlen := padR_length l hl
  have hq := idx_pad l x hm
  rw [← hq.2]
  have hm' := hq.1
  clear hq hm hl
  unfold agp
  generalize padR l = P at *
  obtain ⟨a0, a1, a2, a3, a4, a5, a6, rfl⟩ := seven hlen
  show Calls Tryd.prog 77 #[ag a0 a1 a2 a3 a4 a5 a6, .int .i64 x] w fun e w' => _ ∧ w' = w.alloc (.cells #[.int .i64 a0, .int .i64 a1, .int .i64 a2, .int .i64 a3, .int .i64 a4, .int .i64 a5, .int .i64 a6] 39)
  have hw : Arr (w.alloc (.cells #[.int .i64 a0, .int .i64 a1, .int .i64 a2, .int .i64 a3, .int .i64 a4, .int .i64 a5, .int .i64 a6] 39)) w.heap.size [a0, a1, a2, a3, a4, a5, a6] := heap_alloc_new w _
  have hr : Rd (w.alloc (.cells #[.int .i64 a0, .int .i64 a1, .int .i64 a2, .int .i64 a3, .int .i64 a4, .int .i64 a5, .int .i64 a6] 39)) (w.heap.size + 1) (some ⟨w.heap.size, 0, none⟩) 7 [a0, a1, a2, a3, a4, a5, a6] :=
    ⟨rfl, fun _ => ⟨_, _, rfl, by omega, fun k hk => by rw [Nat.zero_add]; exact hw.cell (by simpa using hk)⟩⟩
  have hi := index_any (some ⟨w.heap.size, 0, none⟩) 7 7 _ _ x _ hr (by omega)
  rw [if_pos hm'] at hi
  generalize ([a0, a1, a2, a3, a4, a5, a6] : List Int).idxOf x = q at hi ⊢
  have HI := Lib.hid hi
  clear hw hr hi hm' hlen
  go_enter Tryd.func77, Tryd.ntmps77
  go_wp2_with (go_at_call 95; refine HI.out.mono ?_; rintro e w' ⟨rfl, rfl⟩)
  go_ret
  exact ⟨rfl, rfl⟩
end Go.Proofs.YtjpbmhlojpaieaaDoor
