/- The points behind a word, read by the model. -/
import Derived.Laws.DeepStrings4
import Derived.Laws.Strings3
import Derived.Lib.IndexEntry
import Derived.Test.YthefnanhikjddaaDoorPdM
import Derived.Test.YthefnanhikjddaaDoorFold
import Derived.Test.YthefnanhikjddaaDoorMA
namespace Go.Proofs.YthefnanhikjddaaDoor
open Go.ChangeShapes Go.WideShapes Go.ChangeAt Go.RowKit

theorem sl_pre (s : ByteArray) (j : Nat) (hj : j ≤ s.size) (W : World) : (Instr.slice 9 (.string s) none (some (.int .i64 (j : Int))) none).run Tryd.prog W = .ok (.string (s.extract 0 j)) W := by
  rw [run_slice_string_to_if (h := Tryd.underlying9), if_pos (by omega)]
  simp
theorem pre_eq (s p : ByteArray) : ((s.extract 0 p.size).toList == p.toList) = Lib.hasPrefix s.data.toList p.data.toList := by
  rw [Lib.toList_data, Lib.toList_data, Lib.extract_data]
  rw [Bool.eq_iff_iff, beq_iff_eq]
  unfold Lib.hasPrefix
  rw [List.isPrefixOf_iff_prefix, List.prefix_iff_eq_take]
  have : p.data.toList.length = p.size := by simp
  rw [this]
  simp
  exact eq_comm
theorem pre_no (s p : ByteArray) (hb : Lib.hasPrefix s.data.toList p.data.toList = false) : ¬ (s.extract 0 p.size).toList = p.toList := fun h => by
  have h2 := pre_eq s p
  rw [hb, h] at h2
  simp at h2
theorem pre_yes (s p : ByteArray) (hb : Lib.hasPrefix s.data.toList p.data.toList = true) : (s.extract 0 p.size).toList = p.toList := by
  have h2 := pre_eq s p
  rw [hb] at h2
  exact beq_iff_eq.1 h2
theorem pre_len {s p : ByteArray} (h : Lib.hasPrefix s.data.toList p.data.toList = true) : p.size ≤ s.size := by
  have := List.IsPrefix.length_le (List.isPrefixOf_iff_prefix.1 h)
  simpa using this

end Go.Proofs.YthefnanhikjddaaDoor
