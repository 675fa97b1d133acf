/- The model's set of a list's points. -/
import Derived.Test.YthpomflpnmddoaaGreatDoorWvI
namespace Go.Proofs.YthpomflpnmddoaaGreatDoor
open Go.ChangeShapes Go.WideShapes Go.ChangeAt Go.RowKit

theorem setS_any (A : Option Addr) (n c H : Nat) (l : List Int) (w : World) (h : Rd w H A n l) (hn : n ≤ 1048576) (hp : ∀ x ∈ l, 0 ≤ x ∧ x < 7) :
    Calls Tryz.prog 42 #[.slice A n c] w fun e w' => e = .returned (.int .i64 (maskN l : Int)) ∧ w = w' := by
  have HL := Lib.hid h.len
  have HM : Hid (maskI l = (maskN l : Int)) := (mask_eq l hp 0 (by omega)).1
  rw [← HM.out]
  have HP := Lib.hid hp
  clear hp HM
  go_enter Tryz.func42, Tryz.ntmps42
  go_wp2_with fail
  go_loop [3, 4] (fun s i => ∃ k : Nat, k ≤ n ∧ i = .int .i64 k ∧ ∃ q : Int, s = .int .i64 q ∧ Hid (q = maskI (l.take k))) (fun _ i => n - (intOf i).toNat)
  case atStart => exact ⟨0, Nat.zero_le _, rfl, 0, rfl, rfl⟩
  case round =>
    obtain ⟨k, hk, rfl, q, rfl, hq⟩ := hrel
    by_cases hlt : k < n
    · obtain ⟨b, o, rfl, hbH, hcs⟩ := h.at_ (by omega)
      have hc := hcs k hlt
      clear hcs
      have hx0 := (HP.out _ (getD_mem l k (by rw [HL.out]; exact hlt))).1
      have T3 : Hid (bits BinOp.or IntKind.i64 q (wrap64 (2 ^ min (l.getD k 0).toNat 64)) = maskI (l.take (k + 1))) := by
        have := maskI_step l k (by rw [HL.out]; exact hlt)
        rw [← hq.out] at this
        exact this.symm
      generalize l.getD k 0 = x at hc T3 hx0
      go_wp2_with fail
      go_round
      case rel => exact ⟨k + 1, by omega, by go_num, _, rfl, T3⟩
      case measure => simp [intOf]; omega
    · obtain rfl : k = n := by omega
      have hq' : Hid (q = maskI l) := by
        have := hq.out
        rw [List.take_of_length_le (by rw [HL.out]; omega)] at this
        exact this
      go_wp2
      go_ret
      exact ⟨by rw [← hq'.out]; rfl, rfl⟩


end Go.Proofs.YthpomflpnmddoaaGreatDoor
