/- Sets of points as the program tells them: the full set, whether a set has a point, the set of a list's points, the least of a list. -/
import Derived.Test.YthpomflpnmddoaaGreatDoorWvM
namespace Go.Proofs.YthpomflpnmddoaaGreatDoor
open Go.ChangeShapes Go.WideShapes Go.ChangeAt Go.RowKit

theorem fullSet_any (n : Nat) (w : World) (hn : n ≤ 7) :
    Calls Tryz.prog 13 #[.int .i64 (n : Int)] w fun e w' => e = .returned (.int .i64 ((2 ^ n - 1 : Nat) : Int)) ∧ w = w' := by
  obtain rfl | rfl | rfl | rfl | rfl | rfl | rfl | rfl : n = 0 ∨ n = 1 ∨ n = 2 ∨ n = 3 ∨ n = 4 ∨ n = 5 ∨ n = 6 ∨ n = 7 := by omega
  all_goals
    go_enter Tryz.func13, Tryz.ntmps13
    go_wp2
    go_ret
    exact ⟨rfl, rfl⟩

theorem setHas_any (s : Nat) (x : Int) (w : World) (hs : s < 128) (h0 : 0 ≤ x) (h7 : x < 7) :
    Calls Tryz.prog 78 #[.int .i64 (s : Int), .int .i64 x] w fun e w' => e = .returned (.bool (hasN s x)) ∧ w = w' := by
  have hb := and_one_bit s x hs h0 h7
  rw [show min x.toNat 64 = x.toNat by omega] at hb
  generalize hasN s x = r at *
  go_enter Tryz.func78, Tryz.ntmps78
  go_wp2
  go_ret
  exact ⟨by rw [← hb]; rfl, rfl⟩

theorem setOf_any (A : Option Addr) (n c H : Nat) (l : List Int) (w : World) (h : Rd w H A n l) (hn : n ≤ 1048576) (hp : ∀ x ∈ l, 0 ≤ x ∧ x < 7) :
    Calls Tryz.prog 35 #[.slice A n c] w fun e w' => e = .returned (.int .i64 (maskN l : Int)) ∧ w = w' := by
  have HL := Lib.hid h.len
  have HM : Hid (maskI l = (maskN l : Int)) := (mask_eq l hp 0 (by omega)).1
  rw [← HM.out]
  have HP := Lib.hid hp
  clear hp HM
  go_enter Tryz.func35, Tryz.ntmps35
  go_wp2_with fail
  go_loop [3, 8] (fun s i => ∃ k : Nat, k ≤ n ∧ i = .int .i64 k ∧ ∃ q : Int, s = .int .i64 q ∧ Hid (q = maskI (l.take k))) (fun _ i => n - (intOf i).toNat)
  case atStart => exact ⟨0, Nat.zero_le _, rfl, 0, rfl, rfl⟩
  case round =>
    obtain ⟨k, hk, rfl, q, rfl, hq⟩ := hrel
    by_cases hlt : k < n
    · obtain ⟨b, o, rfl, hbH, hcs⟩ := h.at_ (by omega)
      have hc := hcs k hlt
      clear hcs
      have hx0 := (HP.out _ (getD_mem l k (by rw [HL.out]; exact hlt))).1
      have T3 : Hid (bits BinOp.or IntKind.i64 q (wrap64 (2 ^ min (l.getD k 0).toNat 64)) = maskI (l.take (k + 1))) := by
        have := maskI_step l k (by rw [HL.out]; exact hlt)
        rw [← hq.out] at this
        exact this.symm
      generalize l.getD k 0 = x at hc T3 hx0
      go_wp2_with fail
      go_round
      case rel => exact ⟨k + 1, by omega, by go_num, _, rfl, T3⟩
      case measure => simp [intOf]; omega
    · obtain rfl : k = n := by omega
      have hq' : Hid (q = maskI l) := by
        have := hq.out
        rw [List.take_of_length_le (by rw [HL.out]; omega)] at this
        exact this
      go_wp2
      go_ret
      exact ⟨by rw [← hq'.out]; rfl, rfl⟩

/-- The least of a list's numbers. -/
def minL (l : List Int) : Int := l.foldl (fun m x => if x < m then x else m) (l.getD 0 0)
theorem minL_step (l : List Int) (k : Nat) (h1 : 1 ≤ k) (hk : k < l.length) : minL (l.take (k + 1)) = if l.getD k 0 < minL (l.take k) then l.getD k 0 else minL (l.take k) := by
  unfold minL
  have e : (l.take (k + 1)).getD 0 0 = (l.take k).getD 0 0 := by simp [List.getD, show 0 < k by omega]
  rw [e, List.take_succ_eq_append_getElem hk, List.foldl_append]
  simp [List.getD, hk]
theorem minL_one (l : List Int) (h : 0 < l.length) : minL (l.take 1) = l.getD 0 0 := by
  match l, h with
  | x :: l, _ => simp [minL]
theorem minL_le (l : List Int) : ∀ (a : Int), (∀ x ∈ l, l.foldl (fun m x => if x < m then x else m) a ≤ x) ∧ l.foldl (fun m x => if x < m then x else m) a ≤ a ∧ (l.foldl (fun m x => if x < m then x else m) a = a ∨ l.foldl (fun m x => if x < m then x else m) a ∈ l) := by
  induction l with
  | nil => intro a; exact ⟨fun x hx => by simp at hx, by simp, .inl rfl⟩
  | cons y l ih =>
    intro a
    simp only [List.foldl_cons]
    obtain ⟨h1, h2, h3⟩ := ih (if y < a then y else a)
    have h4 : (if y < a then y else a) ≤ a ∧ (if y < a then y else a) ≤ y := by split <;> omega
    refine ⟨fun x hx => ?_, by omega, ?_⟩
    · rcases List.mem_cons.1 hx with rfl | hx
      · omega
      · exact h1 x hx
    · rcases h3 with h3 | h3
      · rw [h3]
        by_cases hy : y < a
        · rw [if_pos hy]; exact .inr (by simp)
        · rw [if_neg hy]; exact .inl rfl
      · exact .inr (List.mem_cons_of_mem _ h3)
theorem minL_head (l : List Int) : (l.getD 0 0 = minL l) ↔ ∀ x ∈ l, l.getD 0 0 ≤ x := by
  obtain ⟨h1, h2, h3⟩ := minL_le l (l.getD 0 0)
  constructor
  · intro e x hx
    rw [e]
    exact h1 x hx
  · intro hh
    unfold minL
    rcases h3 with h3 | h3
    · exact h3.symm
    · have := hh _ h3
      omega

end Go.Proofs.YthpomflpnmddoaaGreatDoor
