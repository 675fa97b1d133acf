/- ThreeFirst and ThreeMostRing of the program, the capacity of what they give told. -/
import Derived.Test.YtamnacgclhaggaaMostT
import Derived.Test.YtamnacgclhaggaaMA
namespace Go.Proofs.Ytamnacgclhaggaa
open Go.ChangeShapes Go.WideShapes Go.ChangeAt Go.RowKit

set_option maxHeartbeats 1000000 in
theorem mrIv_any (A : Option Addr) (n c H : Nat) (q : Int) (L : List (List Int)) (w : World) (h : RdS w H A n L) (hH : H ≤ w.heap.size) (_ : tot L ≤ 1048576) :
    Calls Try.prog 18 #[.int .i64 q, .slice A n c] w fun e w' => ∃ v, e = .returned (.tuple #[v, .bool (tel q L)]) ∧ Own w' w.heap.size v (mrR q L) ∧ Below w.heap.size w w' := by
  have HC := Lib.hid (readThrees_any A n c H L q w h hH)
  by_cases ht : Tel q L
  · obtain ⟨k, rfl, h3, h6⟩ := tel_nat ht
    have HTY := Lib.hid (tel_yes ht).1
    have HT := Lib.hid ht
    have hmi := most_is k L h3 h6
    have HR : Hid (mrR (k : Int) L = mostL k L) := by rw [Hid, mrR, if_pos ht, Int.toNat_natCast]
    have HLI := Lib.hid (fun W => list_any (mostL k L) W (by rw [hmi.1.1]; omega) (by rw [hmi.1.1]; omega) hmi.1.2.1)
    rw [(tel_yes ht).1, (tel_yes ht).2] at HC
    rw [HR.out, HTY.out]
    clear h hH ht hmi
    go_enter Try.func18, Try.ntmps18
    go_wp2_with fail
    refine HC.out.mono ?_
    rintro e w1 ⟨v1, rfl, hr1, hb1⟩
    have HG := Lib.hid (mostA_any k v1 w.heap.size L w1 hr1 h3 h6 (by have := HT.out.2.2.1; omega) HT.out.2.2.2)
    clear hr1 HC
    go_wp2_with fail
    refine HG.out.mono ?_
    rintro e w2 ⟨rfl, hb2⟩
    go_wp2_with fail
    refine (HLI.out _).mono ?_
    rintro e w3 ⟨v3, rfl, ho3, hb3⟩
    have hs2 := Nat.le_trans hb1.size hb2.size
    go_wp2
    go_ret2
    exact ⟨v3, rfl, own_less ho3 hs2, (hb1.trans (hb2.mono hb1.size)).trans (hb3.mono hs2)⟩
  · have HTY := Lib.hid (tel_no ht).1
    have HR : Hid (mrR q L = []) := by rw [Hid, mrR, if_neg ht]
    rw [(tel_no ht).1] at HC
    rw [HR.out, HTY.out]
    clear h hH ht
    go_enter Try.func18, Try.ntmps18
    go_wp2_with (go_at_call 51; refine HC.out.mono ?_; rintro e w1 ⟨v1, rfl, _, hb1⟩)
    go_ret2
    exact ⟨.slice none 0 0, rfl, ⟨rfl, .inl ⟨rfl, rfl⟩⟩, hb1⟩
end Go.Proofs.Ytamnacgclhaggaa
