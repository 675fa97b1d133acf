/- The points that letters stand for, in the program. -/
import Derived.Test.YtehadbpbkenccaaGreatDoorMA
import Derived.Test.YtehadbpbkenccaaGreatDoorDR
import Derived.Test.YtehadbpbkenccaaGreatDoorTmA
namespace Go.Proofs.YtehadbpbkenccaaGreatDoor
open Go.ChangeShapes Go.WideShapes Go.ChangeAt Go.RowKit

theorem pt_at (s : ByteArray) (k : Nat) (h : k < s.size) : (ptsU s.data.toList).getD k 0 = (s[k].toNat : Int) - 97 := by
  have h' : k < s.data.size := h
  have e : s.data[k]? = some s[k] := Array.getElem?_eq_getElem h'
  simp [ptsU, List.getD, e]
theorem let_at (s : ByteArray) (hL : ∀ c ∈ s.data.toList, isL c = true) (k : Nat) (h : k < s.size) : 97 ≤ s[k].toNat ∧ s[k].toNat ≤ 103 := by
  have := hL s[k] (by simp [ByteArray.getElem_eq_getElem_data])
  simpa [isL] using this
set_option maxHeartbeats 400000 in
theorem points_any (s : ByteArray) (w : World) (hL : ∀ c ∈ s.data.toList, isL c = true) (hn : s.size ≤ 1048576) :
    Calls Tryz.prog 25 #[.string s] w fun e w' => e = .returned (.slice (some ⟨w.heap.size, 0, none⟩) s.size s.size) ∧
      Own w' w.heap.size (.slice (some ⟨w.heap.size, 0, none⟩) s.size s.size) (ptsU s.data.toList) ∧ Below w.heap.size w w' := by
  obtain ⟨i0, hi, hz0, hz1, hz2⟩ := info_parts int_info
  have HL := Lib.hid hL
  clear hL
  obtain ⟨zs, hzs⟩ : ∃ zs, zs = ptsU s.data.toList := ⟨_, rfl⟩
  have hL : Hid (zs.length = s.size) := by rw [Hid, hzs, ptsU_len]; simp
  rw [← hzs]
  have HZ := Lib.hid hzs
  clear hzs
  obtain ⟨n, hn'⟩ : ∃ n, n = s.size := ⟨_, rfl⟩
  go_enter Tryz.func25, Tryz.ntmps25
  go_wp2_with (at_make; refine wpList_make_full _ rfl _ _ 41 rfl w.heap.size 3 i0 (.int .i64 0) 1 Tryz.underlying41 hi hz0 hz1 .i64 .i64 _ _ s.size rfl rfl rfl rfl (by rw [hz2]; omega) (by unfold maxLen; omega) (Nat.le_refl _) ?_)
  intro w1 hown hgrow
  clear hn'
  have hb1 : Below w.heap.size w w1 := (Below.refl _ _).grown hgrow (Nat.le_refl _) (by simp)
  have ho1 : w1.ownsRow w.heap.size 3 1 (.slice (some ⟨w.heap.size, 0, none⟩) s.size s.size) s.size (ints (half zs s.size 0)) := by
    have e : ints (half zs s.size 0) = (madeCells #[Value.int IntKind.i64 0] s.size).toList := by
      rw [half_zero, toList_madeCells_one]
      simp [ints]
    rw [e]
    simpa using hown
  clear hown hgrow
  generalize hB : w.heap.size = B at *
  have HB := Lib.hid hB
  clear hB
  go_wp2
  go_loopw [10] (fun i wr => ∃ k : Nat, k ≤ s.size ∧ i = .int .i64 k ∧ wr.ownsRow B 3 1 (.slice (some ⟨B, 0, none⟩) s.size s.size) s.size (ints (half zs s.size k)) ∧ Below B w wr) (fun i _ => s.size - (intOf i).toNat)
  case atStart => exact ⟨0, Nat.zero_le _, rfl, ho1, hb1⟩
  case round =>
    obtain ⟨k, hk, rfl, hown, hbl⟩ := hrel
    by_cases hlt : k < s.size
    · obtain ⟨h97, h103⟩ := let_at s HL.out k hlt
      have hst := hown.stored k (.int .i64 (zs.getD k 0))
      rw [ints_set, half_step zs s.size k hL.out hlt] at hst
      have hcell : wr.cell? ⟨B, k, none⟩ = some (.int .i64 ((half zs s.size k).getD k 0)) := by
        rw [hown.cellAt k (by omega), ints_get _ _ (by rw [half_length zs s.size k hL.out hk]; exact hlt)]
      have hfr : wr.frozen? ⟨B, k, none⟩ = false := hown.frozenAt _
      have hpt : zs.getD k 0 = (s[k].toNat : Int) - 97 := by rw [HZ.out]; exact pt_at s k hlt
      rw [hpt] at hst
      have HS := Lib.hid hst
      clear hst hb1 ho1 hpt
      generalize (half zs s.size k).getD k 0 = old at hcell
      go_wp2
      go_roundw
      case rel => exact ⟨k + 1, by omega, by go_num, HS.out.1, hbl.grown HS.out.2 (by have := hbl.size; have := HB.out; omega) (by simp)⟩
      case measure => simp [intOf]; omega
    · go_wp2
      go_ret
      obtain rfl : k = s.size := by omega
      rw [HB.out]
      refine ⟨rfl, ?_, hbl⟩
      rw [half_full zs s.size hL.out] at hown
      unfold Own
      rw [hL.out]
      exact hown
end Go.Proofs.YtehadbpbkenccaaGreatDoor
