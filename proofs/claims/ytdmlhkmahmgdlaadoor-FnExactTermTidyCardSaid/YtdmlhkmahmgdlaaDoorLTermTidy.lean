/- The law of TermTidy: the program's answer is the model's. -/
import Derived.Test.YtdmlhkmahmgdlaaDoorTn6
namespace Go.Proofs.YtdmlhkmahmgdlaaDoor
open Go.ChangeShapes Go.WideShapes Go.ChangeAt Go.RowKit

theorem law_TermTidy (s : ByteArray) (W : World) (hm : s.size ≤ maxLen) (hand : Hand W) : Calls Tryd.prog 6 #[.string s] W fun e W' => e = .returned (.bool true) ∧ Below W.heap.size W W' := by
  unfold maxLen at hm
  by_cases hs : s.size ≤ 1048576
  · rcases h : ringT s.data.toList with _ | t
    · have HS := Lib.hid (tidyS_no s W h)
      have HI := Lib.hid (fun V hV => tidyI_no s V hV hs h)
      clear h
      go_enter Tryd.func6, Tryd.ntmps6
      go_wp2_with (first
        | (go_at_call 19; refine HS.out.mono ?_; rintro e w1 ⟨rfl, hb1⟩)
        | (go_at_call 20; refine (HI.out _ (hand.on hb1)).mono ?_; rintro e w2 ⟨rfl, hb2⟩))
      go_ret
      exact ⟨rfl, hb1.trans (hb2.mono hb1.size)⟩
    · have HS := Lib.hid (tidyS_yes s W t h)
      have HI := Lib.hid (fun V hV => tidyI_yes s V hV hs t h)
      clear h
      go_enter Tryd.func6, Tryd.ntmps6
      go_wp2_with (first
        | (go_at_call 19; refine HS.out.mono ?_; rintro e w1 ⟨rfl, hb1⟩)
        | (go_at_call 20; refine (HI.out _ (hand.on hb1)).mono ?_; rintro e w2 ⟨rfl, hb2⟩))
      go_ret
      exact ⟨rfl, hb1.trans (hb2.mono hb1.size)⟩
  · have hs' : 1048576 < s.size := by omega
    clear hs
    go_enter Tryd.func6, Tryd.ntmps6
    go_wp2_with fail
    go_ret
    exact ⟨rfl, Below.refl _ _⟩
end Go.Proofs.YtdmlhkmahmgdlaaDoor
