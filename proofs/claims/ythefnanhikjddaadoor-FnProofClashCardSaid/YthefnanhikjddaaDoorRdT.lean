/- What is told is read. -/
import Derived.Test.YthefnanhikjddaaDoorPtW
import Derived.Test.YthefnanhikjddaaDoorPdM
namespace Go.Proofs.YthefnanhikjddaaDoor
open Go.ChangeShapes Go.WideShapes Go.ChangeAt Go.RowKit

theorem dgs_told (l : List Int) (h : ∀ x ∈ l, 0 ≤ x ∧ x ≤ 9) : dgs (l.flatMap fun x => [32, UInt8.ofNat (48 + x.toNat)]) = some l := by
  induction l with
  | nil => rfl
  | cons x l ih =>
    have hx := h x (by simp)
    have e : (UInt8.ofNat (48 + x.toNat)).toNat = 48 + x.toNat := by simp; omega
    rw [List.flatMap_cons]
    show dgs (32 :: UInt8.ofNat (48 + x.toNat) :: (l.flatMap fun x => [32, UInt8.ofNat (48 + x.toNat)])) = _
    rw [dgs_yes _ _ _ ⟨rfl, by omega, by omega⟩, ih fun y hy => h y (by simp [hy]), Option.map_some, e]
    congr 2
    omega
theorem rd_told (p : ByteArray) (l : List Int) (h : ∀ x ∈ l, 0 ≤ x ∧ x ≤ 9) : rdW p.data.toList (tld p l).data.toList = some l := by
  have e : (tld p l).data.toList = told p.data.toList l := by simp [tld]
  rw [e]
  unfold rdW told
  have hp : Lib.hasPrefix (p.data.toList ++ l.flatMap fun x => [32, UInt8.ofNat (48 + x.toNat)]) p.data.toList = true := by
    unfold Lib.hasPrefix
    rw [List.isPrefixOf_iff_prefix]
    exact List.prefix_append _ _
  rw [hp, if_pos rfl, List.drop_left]
  exact dgs_told l h
end Go.Proofs.YthefnanhikjddaaDoor
