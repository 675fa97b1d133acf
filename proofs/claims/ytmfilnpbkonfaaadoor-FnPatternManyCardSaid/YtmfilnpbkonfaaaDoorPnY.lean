/- PatternBack, PatternAt, PatternOf of the model. -/
import Derived.Test.YtmfilnpbkonfaaaDoorPnV
import Derived.Test.YtmfilnpbkonfaaaDoorPR
namespace Go.Proofs.YtmfilnpbkonfaaaDoor
open Go.ChangeShapes Go.WideShapes Go.ChangeAt Go.RowKit

/-- Whether a ring has a pattern at a number. -/
def paB (l p : List Int) (s : Int) : Bool := two8 l p && (setB l s && atN l p s.toNat)
def poB (l : List Int) (s : Int) : Bool := setB l s && decide (3 ≤ sizN s.toNat)
def poR (l : List Int) (s : Int) : List Int := if poB l s then patL l s.toNat else []
theorem poR_length (l : List Int) (s : Int) : (poR l s).length ≤ 7 := by
  unfold poR poB
  split
  · rename_i h
    rw [Bool.and_eq_true] at h
    have hs : SetL l s := by simpa [setB] using h.1
    obtain ⟨k, rfl, hk, _⟩ := hs.nat
    rw [Int.toNat_natCast, pat_length hs.1.1 hk]
    exact siz_le k
  · simp

set_option maxHeartbeats 1000000 in
theorem pbS_any (A0 : Option Addr) (n0 c0 : Nat) (A1 : Option Addr) (n1 c1 H : Nat) (l0 l1 : List Int) (w : World) (h0 : Rd w H A0 n0 l0) (h1 : Rd w H A1 n1 l1) (hH : H ≤ w.heap.size) (hn0 : n0 ≤ 1048576) (hn1 : n1 ≤ 1048576) :
    Calls Tryd.prog 14 #[.slice A0 n0 c0, .slice A1 n1 c1] w fun e w' => e = .returned (.tuple #[.int .i64 (pbR l0 l1), .bool (two8 l0 l1)]) ∧ Below w.heap.size w w' := by
  have HT := Lib.hid (two8S_any A0 n0 c0 A1 n1 c1 H l0 l1 w h0 h1 hn0 hn1)
  by_cases ht : Two8 l0 l1
  · have L1 := h1.len
    have HBK := Lib.hid (backS_any A1 n1 c1 H l1 w h1 hH (by have := ht.2.1.1.1; omega) (by have := ht.2.1.1.2.1; omega))
    have HM := Lib.hid (fun (A : Option Addr) (n c : Nat) (W : World) (hb : Below w.heap.size w W) (hR : Rd W W.heap.size A n (backL l1)) => manyS_any A0 n0 c0 A n c W.heap.size l0 (backL l1) W ((h0.below (hb.mono hH)).more (Nat.le_trans hH hb.size)) hR (Nat.le_refl _) ht.1.1 (backL_tell' ht.2.1.1))
    rw [two8_yes ht] at HT ⊢
    rw [pbR, if_pos ht]
    generalize mnyN l0 (backL l1) = z at *
    generalize backL l1 = R at *
    clear h0 h1 ht L1
    go_enter Tryd.func14, Tryd.ntmps14
    go_wp2_with (go_at_call 40; refine HT.out.mono ?_; rintro e w' ⟨rfl, rfl⟩)
    refine HBK.out.mono ?_
    rintro e w1 ⟨v1, rfl, ho1, hb1⟩
    obtain ⟨A, c, rfl⟩ := ho1.slice
    have HC := Lib.hid (HM.out A _ c w1 hb1 ho1.rd.2)
    have HB := Lib.hid hb1
    clear ho1 hb1 HM HBK
    generalize R.length = y at *
    go_wp2_with fail
    refine HC.out.mono ?_
    rintro e w2 ⟨rfl, hb2⟩
    have HB2 := Lib.hid (HB.out.trans (hb2.mono HB.out.size))
    clear hb2
    go_wp2
    go_ret2
    exact ⟨rfl, HB2.out⟩
  · rw [two8_no ht] at HT ⊢
    rw [pbR, if_neg ht]
    clear h0 h1 ht
    go_enter Tryd.func14, Tryd.ntmps14
    go_wp2_with (go_at_call 40; refine HT.out.mono ?_; rintro e w' ⟨rfl, rfl⟩)
    go_ret2
    exact ⟨rfl, Below.refl _ _⟩

end Go.Proofs.YtmfilnpbkonfaaaDoor
