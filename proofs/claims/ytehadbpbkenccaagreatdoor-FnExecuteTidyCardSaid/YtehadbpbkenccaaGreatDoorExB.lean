/- The library's Split and Builder, asked at this seat's numbers. -/
import Derived.Test.YtehadbpbkenccaaGreatDoorExR
import Derived.Test.YtehadbpbkenccaaGreatDoorExM
import Derived.Test.YtehadbpbkenccaaGreatDoorPtL
namespace Go.Proofs.YtehadbpbkenccaaGreatDoor
open Go.ChangeShapes Go.WideShapes Go.ChangeAt Go.RowKit

theorem split_mx (s sep : ByteArray) (w : World) (hs : s.size ≤ 1000000) (hM : Mxl w) (h1 : 1 ≤ sep.size) :
    Calls Tryz.prog 14 #[.string s, .string sep] w fun e w' => e = .returned (.slice (some ⟨w.heap.size, 0, none⟩) (Lib.countB s sep + 1) (Lib.countB s sep + 1)) ∧
      w' = w.alloc (.cells ((Lib.splitB sep 0 (Lib.countB s sep) s).map Value.string).toArray 9) := by
  obtain ⟨m, hm⟩ := hM.2
  exact Any.strings_Split Tryz.lays146 (by kernel_rfl) s sep m w (by omega) hm h1

/-- The builder at b holds these bytes. -/
def Bld (b : Nat) (l : List UInt8) (w : World) : Prop := Lib.IsBuilder 51 5 b b (Lib.byteCells l) w
theorem bldAt_below {p : Value} {b : Nat} {l : List Value} {w w' : World} (h : Lib.BuilderAt 51 5 b b p l w) (hb : Below w.heap.size w w') : Lib.BuilderAt 51 5 b b p l w' := by
  have hlt := h.lt
  obtain ⟨hB, v, hv, hown, hne⟩ := h
  exact ⟨hB, v, (hb.block b hlt).trans hv, hown.kept (row := none) ⟨hb.os, hb.tape, hb.output, hb.size, fun k hk _ => hb.block k hk⟩ (Classical.em _), hne⟩
theorem Bld.below {b : Nat} {l : List UInt8} {w w' : World} (h : Bld b l w) (hb : Below w.heap.size w w') : Bld b l w' := h.elim (fun x => .inl (bldAt_below x hb)) (fun x => .inr (bldAt_below x hb))
theorem Bld.lt {b : Nat} {l : List UInt8} {w : World} (h : Bld b l w) : b < w.heap.size := h.elim (fun x => x.lt) (fun x => x.lt)
theorem bld_new (w : World) : Bld w.heap.size [] (w.alloc (.cells #[.pointer none, .slice none 0 0] 51)) := Lib.fresh_isBuilder _ _ w
theorem wstr_any (b : Nat) (l : List UInt8) (s : ByteArray) (w : World) (h : Bld b l w) (hl : l.length + s.size ≤ 1000000) :
    Calls Tryz.prog 15 #[.pointer (some ⟨b, 0, none⟩), .string s] w fun e w' => (∃ v, e = .returned v) ∧ Bld b (l ++ s.data.toList) w' ∧ Below b w w' := by
  have hb := h.lt
  refine (Any.Builder_WriteString Tryz.lays166 Tryz.extra166 b b (Lib.byteCells l) s w h (by rw [Lib.byteCells_length]; omega) (by omega)).mono ?_
  rintro e w' ⟨he, hB, hb⟩
  refine ⟨⟨_, he⟩, ?_, hb⟩
  unfold Bld
  have e2 : Lib.byteCells (l ++ s.data.toList) = Lib.byteCells l ++ Lib.strCells s := by rw [Lib.strCells_eq]; simp [Lib.byteCells]
  rw [e2]
  exact Or.inr hB
theorem str_any (b : Nat) (l : List UInt8) (w : World) (h : Bld b l w) (h0 : l ≠ []) :
    Calls Tryz.prog 18 #[.pointer (some ⟨b, 0, none⟩)] w fun e w' => e = .returned (.string ⟨l.toArray⟩) ∧ Below b w w' :=
  Any.Builder_String Tryz.lays169 Tryz.extra169 b b l w h h0
theorem itoa_any (i : Nat) (hi : i < 100) (w : World) : Calls Tryz.prog 17 #[.int .i64 i] w fun e w' => e = .returned (.string ⟨(Lib.decDigits i).toArray⟩) ∧ w' = w := Any.strconv_Itoa_small Tryz.lays171 i hi w
theorem dec_one : ∀ i : Nat, i < 10 → Lib.decDigits i = [UInt8.ofNat (48 + i)] := by decide +kernel
theorem itoa_five (w : World) : Calls Tryz.prog 17 #[.int .i64 5] w fun e w' => e = .returned (.string ⟨#[53]⟩) ∧ w' = w := by
  have := itoa_any 5 (by omega) w
  rw [dec_one 5 (by omega)] at this
  exact this
end Go.Proofs.YtehadbpbkenccaaGreatDoor
