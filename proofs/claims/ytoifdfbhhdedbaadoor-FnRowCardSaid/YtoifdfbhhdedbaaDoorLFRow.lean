/- P89 as the row's walk asks. -/
import Derived.Test.YtoifdfbhhdedbaaDoorDraw24
import Derived.Test.YtoifdfbhhdedbaaDoorTn1
import Derived.Test.YtoifdfbhhdedbaaDoorTn7
import Derived.Test.YtoifdfbhhdedbaaDoorTp1
namespace Go.Proofs.YtoifdfbhhdedbaaDoor
open Go.ChangeShapes Go.WideShapes Go.ChangeAt Go.RowKit

/-- The row that a text tells, in letters. -/
def trowR (l : List UInt8) : List UInt8 := match ringT l with | none => [] | some t => t.row
theorem trowI_any (u : ByteArray) (V : World) (hand : Hand V) (hs : u.size ≤ 1048576) : Calls Tryd.prog 11 #[.string u] V (StrQ (trowR u.data.toList) (ringT u.data.toList).isSome V) := by
  unfold trowR
  rcases h : ringT u.data.toList with _ | t
  · exact rowI_no u V hand hs h
  · exact rowI_yes u V hand hs t h
theorem trowS_any (u : ByteArray) (V : World) : Calls Tryd.prog 12 #[.string u] V (StrQ (trowR u.data.toList) (ringT u.data.toList).isSome V) := by
  unfold trowR
  rcases h : ringT u.data.toList with _ | t
  · exact rowS_no u V h
  · exact rowS_yes u V t h

set_option maxRecDepth 10000 in
set_option maxHeartbeats 2000000 in
theorem law_Row (a0 : Option Addr) (len0 cap0 : Nat) (z0 : List Int) (w : World) (w0 : IsRow .u8 w a0 len0 cap0 z0) (hand : Hand w) :
    Calls Tryd.prog 4 #[.slice a0 len0 cap0] w fun e w' => e = .returned (.bool true) ∧ Below w.heap.size w w' := by
  obtain ⟨h, hlc, hcm⟩ := byt_of_row w0
  have HD := Lib.hid (drawTermRow_any len0 cap0 w.heap.size a0 w h (Nat.le_refl _) hlc hcm)
  have HI := Lib.hid (fun (u : ByteArray) (V : World) (h1 : Below w.heap.size w V) (h2 : u.size ≤ 1048576) => trowI_any u V (hand.on h1) h2)
  have HJ := Lib.hid (fun (u : ByteArray) (V : World) (h1 : Below w.heap.size w V) (h2 : u.size ≤ 1048576) => tringI_law V.heap.size u V (Nat.le_refl _) h2 (hand.on h1))
  clear w0 h hand
  by_cases hn : len0 ≤ 1048576
  rotate_left
  · go_enter Tryd.func4, Tryd.ntmps4
    go_wp2
    go_ret
    exact ⟨rfl, Below.refl _ _⟩
  go_enter Tryd.func4, Tryd.ntmps4
  go_wp2_with fail
  refine HD.out.mono ?_
  rintro e w1 ⟨s, rfl, hs, hb1⟩
  obtain ⟨o, ho⟩ : ∃ o, o = bs (trowR s.data.toList) := ⟨_, rfl⟩
  have H1 := HI.out s w1 hb1 (by omega)
  have H1 := Lib.hid H1
  have HB1 := Lib.hid hb1
  have HOE := Lib.hid ho
  clear hb1 HD ho
  go_wp2_with fail
  refine H1.out.mono ?_
  rintro e w2 ⟨rfl, hb2⟩
  rw [← HOE.out]
  have H2 := Lib.hid (trowS_any s w2)
  have HB2 := Lib.hid (HB1.out.trans (hb2.mono HB1.out.size))
  clear hb2 H1
  go_wp2_with fail
  refine H2.out.mono ?_
  rintro e w3 ⟨rfl, hb3⟩
  rw [← HOE.out]
  have HB3 := Lib.hid (HB2.out.trans (hb3.mono HB2.out.size))
  clear hb3 H2
  rcases hr : ringT s.data.toList with _ | t
  · clear hr
    simp only [Option.isSome_none]
    go_wp2_with fail
    go_ret
    exact ⟨rfl, HB3.out⟩
  · simp only [Option.isSome_some]
    have hor : o = bs t.row := by rw [HOE.out]; unfold trowR; rw [hr]
    have hT := (ringT_ok hr).2
    have hos : o.size = t.row.length := by rw [hor, bs_size]
    have h7 : t.row.length ≤ 7 := by have := hT.2.1; rwa [ptsU_len] at this
    have hfl := ring_flt hr
    have hxl : (⟨#[40]⟩ ++ o ++ ⟨#[41]⟩ : ByteArray).data.toList = 40 :: (t.row ++ [41]) := by rw [hor]; simp [bs]
    have hxs : (⟨#[40]⟩ ++ o ++ ⟨#[41]⟩ : ByteArray).size ≤ 1048576 := by
      rw [ByteArray.size_append, ByteArray.size_append, show (⟨#[40]⟩ : ByteArray).size = 1 from rfl, show (⟨#[41]⟩ : ByteArray).size = 1 from rfl]; omega
    have HX : Hid (bs (trowR (⟨#[40]⟩ ++ o ++ ⟨#[41]⟩ : ByteArray).data.toList) = o ∧ (ringT (⟨#[40]⟩ ++ o ++ ⟨#[41]⟩ : ByteArray).data.toList).isSome = true) := by
      rw [Hid, hxl]
      unfold trowR
      rw [hfl]
      exact ⟨by rw [hor]; show bs (flt t.row).row = _; rw [flt_row], rfl⟩
    have HR : Hid ((tringR s.data.toList).length = o.size ∧ tringB s.data.toList = true) := by
      unfold tringR tringB
      rw [Hid, hr, hos]
      exact ⟨by simp only; rw [cutL_length, ptsU_len], rfl⟩
    have H3 := Lib.hid (HJ.out s w3 HB3.out (by omega))
    have HXS := Lib.hid hxs
    have hos7 : o.size ≤ 7 := by omega
    clear hor hT hos h7 hfl hxl hr HOE hxs
    go_wp2_with fail
    refine H3.out.mono ?_
    rintro e w4 ⟨v, rfl, hown, hb4⟩
    obtain ⟨A, d, rfl⟩ : ∃ A d, v = .slice A (tringR s.data.toList).length d := by
      rcases hown.2 with ⟨e, h0⟩ | ⟨g, cap, cur, e, _⟩
      · exact ⟨none, 0, by rw [e, h0]⟩
      · exact ⟨_, cap, e⟩
    rw [HR.out.1, HR.out.2]
    have HB4 := Lib.hid (HB3.out.trans (hb4.mono HB3.out.size))
    have H4 := Lib.hid (HI.out _ w4 HB4.out HXS.out)
    clear hb4 H3 hown
    go_wp2_with fail
    refine H4.out.mono ?_
    rintro e w5 ⟨rfl, hb5⟩
    rw [HX.out.1, HX.out.2]
    have HB5 := Lib.hid (HB4.out.trans (hb5.mono HB4.out.size))
    clear hb5 H4
    go_wp2_with fail
    go_ret
    exact ⟨rfl, HB5.out⟩
end Go.Proofs.YtoifdfbhhdedbaaDoor
