/- The laws' drawers of numbers of points and of rings. -/
import Derived.Test.YtgjgpnmldlnmgaaDraw7
import Derived.Deep.RegionHeld3
namespace Go.Proofs.Ytgjgpnmldlnmgaa
open Go.ChangeShapes Go.WideShapes Go.ChangeAt Go.RowKit

theorem tdiv_one (v d : Nat) (h : v < 2 * d) : ∃ q : Nat, q ≤ 1 ∧ Int.tdiv (v : Int) (d : Int) = (q : Int) := by
  refine ⟨v / d, ?_, ?_⟩
  · rcases Nat.eq_zero_or_pos d with rfl | hd
    · simp
    · have := Nat.div_lt_of_lt_mul (show v < d * 2 by omega)
      omega
  · rw [Int.tdiv_eq_ediv_of_nonneg (by omega)]; simp

set_option maxRecDepth 10000 in
set_option maxHeartbeats 2000000 in
theorem drawRingCount_any (n c H : Nat) (A : Option Addr) (w : World) (hb : Byt w H A n) (hH : H ≤ w.heap.size) (hnc : n ≤ c) (hc : c ≤ 9223372036854775807) :
    Calls Try.prog 49 #[.slice A n c] w fun e w' => ∃ x : Int, e = .returned (.int .i64 x) ∧ (-20 ≤ x ∧ x ≤ 20) ∧ Below w.heap.size w w' := by
  have HOP := Lib.hid (openS_any n c H A w hb hH hnc hc)
  clear hb
  go_enter Try.func49, Try.ntmps49
  go_wp2_with fail
  refine HOP.out.mono ?_
  rintro e w1 ⟨rfl, ⟨n', hn', h1, h2⟩, hb1⟩
  have HB1 := Lib.hid hb1
  have HY1 := Lib.hid h2
  have hlt := h1.lt
  generalize hR : w.heap.size = R at *
  have HRq := Lib.hid hR
  have HP1 := Lib.hid (pick_any R n' c H 0 5 A w1 h1 HY1.out hH (by omega) hn' (by omega) (by omega))
  clear h1 h2 hb1 HOP hR
  go_wp2_with (first
    | (go_at_call 66
       refine HP1.out.mono ?_
       rintro e w2 ⟨⟨v1, hv1, rfl⟩, h1, hg, h3⟩
       have HB2 := Lib.hid (below_grown HB1.out hg hlt)
       have HY2 := Lib.hid (HY1.out.grown hg hH)
       have hlt2 := h1.lt
       have a1 : IntKind.i64.wrap (3 + (v1 : Int)) = 3 + (v1 : Int) := IntWalk.i64_in _ (by omega)
       have HP2 := Lib.hid (pick_any R n' c H (0 + 1) 12 A w2 h1 HY2.out hH (by omega) hn' (by omega) (by omega))
       clear h1 hg HB1 HP1 HY1 h3)
    | (go_at_call 66
       refine HP2.out.mono ?_
       rintro e w3 ⟨⟨v2, hv2, rfl⟩, h1, hg, h3⟩
       have HB3 := Lib.hid (below_grown HB2.out hg hlt2)
       have HY3 := Lib.hid (HY2.out.grown hg hH)
       have hlt3 := h1.lt
       obtain ⟨q2, k2, t2⟩ := tdiv_one v2 11 (by omega)
       have t2' : Int.tdiv (v2 : Int) 11 = (q2 : Int) := t2
       have x2 : IntKind.i64.wrap (q2 : Int) = (q2 : Int) := IntWalk.i64_in _ (by omega)
       have y2 : IntKind.i64.wrap ((q2 : Int) * 5) = (q2 : Int) * 5 := IntWalk.i64_in _ (by omega)
       have s2 : IntKind.i64.wrap (3 + (v1 : Int) + (q2 : Int) * 5) = 3 + (v1 : Int) + (q2 : Int) * 5 := IntWalk.i64_in _ (by omega)
       have HP3 := Lib.hid (pick_any R n' c H (0 + 1 + 1) 12 A w3 h1 HY3.out hH (by omega) hn' (by omega) (by omega))
       clear h1 hg HB2 HP2 HY2 h3 t2)
    | (go_at_call 66
       refine HP3.out.mono ?_
       rintro e w4 ⟨⟨v3, hv3, rfl⟩, h1, hg, h3⟩
       have HB4 := Lib.hid (below_grown HB3.out hg hlt3)
       obtain ⟨q3, k3, t3⟩ := tdiv_one v3 11 (by omega)
       have t3' : Int.tdiv (v3 : Int) 11 = (q3 : Int) := t3
       have x3 : IntKind.i64.wrap (q3 : Int) = (q3 : Int) := IntWalk.i64_in _ (by omega)
       have y3 : IntKind.i64.wrap ((q3 : Int) * 5) = (q3 : Int) * 5 := IntWalk.i64_in _ (by omega)
       have s3 : IntKind.i64.wrap (3 + (v1 : Int) + (q2 : Int) * 5 - (q3 : Int) * 5) = 3 + (v1 : Int) + (q2 : Int) * 5 - (q3 : Int) * 5 := IntWalk.i64_in _ (by omega)
       clear h1 hg HB3 HP3 HY3 h3 t3))
  go_ret
  exact ⟨_, rfl, by omega, by rw [HRq.out]; exact HB4.out⟩
end Go.Proofs.Ytgjgpnmldlnmgaa
