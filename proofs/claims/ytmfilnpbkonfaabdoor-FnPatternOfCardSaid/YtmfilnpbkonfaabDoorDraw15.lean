/- The laws' drawer of a ring and a set of its points. -/
import Derived.Test.YtmfilnpbkonfaabDoorDraw6
import Derived.Test.YtmfilnpbkonfaabDoorArP
import Derived.OwnWalk
import Derived.Deep.RegionHeld3
namespace Go.Proofs.YtmfilnpbkonfaabDoor
open Go.ChangeShapes Go.WideShapes Go.ChangeAt Go.RowKit

set_option maxRecDepth 10000 in
set_option maxHeartbeats 4000000 in
theorem set92_any (n c H : Nat) (A : Option Addr) (w : World) (hb : Byt w H A n) (hH : H ≤ w.heap.size) (hnc : n ≤ c) (hc : c ≤ 9223372036854775807) :
    Calls Tryd.prog 39 #[.slice A n c] w fun e w' => ∃ v l x, e = .returned (.tuple #[v, .int .i64 x]) ∧ NewR w' v l ∧ (2 ≤ l.length ∧ l.length ≤ 7) ∧ Below w.heap.size w w' := by
  have HOP := Lib.hid (openS_any n c H A w hb hH hnc hc)
  clear hb
  go_enter Tryd.func39, Tryd.ntmps39
  go_wp2_with fail
  refine HOP.out.mono ?_
  rintro e w1 ⟨rfl, ⟨n', hn', h1, h2⟩, hb1⟩
  have HRG := Lib.hid (ring91_any w.heap.size n' c H 0 7 A w1 h1 h2 hH (by omega) hn' (by omega) (by omega))
  have HB1 := Lib.hid hb1
  have HY1 := Lib.hid h2
  have hlt := h1.lt
  generalize hR : w.heap.size = R at *
  have HRq := Lib.hid hR
  clear h1 h2 hb1 HOP hR
  go_wp2_with fail
  refine HRG.out.mono ?_
  rintro e w2 ⟨v, l, q, rfl, hv, ⟨hl, h1, hq⟩, hg⟩
  have HB2 := Lib.hid (below_grown HB1.out hg hlt)
  have HY2 := Lib.hid (HY1.out.grown hg hH)
  obtain ⟨Av, cv, ev, hcv1, hcv2⟩ := hv.2
  subst ev
  have HV2 := Lib.hid hv
  have hlt2 := h1.lt
  have HRN := Lib.hid (ringS_any Av l.length cv w2.heap.size l w2 hv.1.rd.2 (by omega))
  have HPN : Hid (∀ (V : World) (p m : Nat) (M : Int), M = (m : Int) → RdAt V R A n' c p → Byt V H A n' → p ≤ 1000 → 1 ≤ m → m ≤ 1000 → Calls Tryd.prog 28 #[.pointer (some ⟨R, 0, none⟩), .int .i64 M] V fun e w' => (∃ v : Nat, v < m ∧ e = .returned (.int .i64 (v : Int))) ∧ RdAt w' R A n' c (p + 1) ∧ V.grownBy w' (some R) ∧ w'.heap.size = V.heap.size) := fun V p m M hM h1 h2 h3 hm1 hm => by rw [hM]; exact pick_any R n' c H p m A V h1 h2 hH (by omega) hn' hm1 hm
  have hq20 : q ≤ 20 := by omega
  have HP2 := Lib.hid (fun (m : Nat) (M : Int) (hM : M = (m : Int)) (hm1 : 1 ≤ m) (hm : m ≤ 1000) => HPN.out w2 q m M hM h1 HY2.out (by omega) hm1 hm)
  have hq2 : 2 ≤ l.length := hq.2
  clear h1 hg HB1 HRG HY1 hq
  by_cases hr : Ring l
  rotate_left
  · rw [ring_no hr] at HRN
    obtain ⟨z, hz⟩ : ∃ z, z = l.length := ⟨_, rfl⟩
    have HZ := Lib.hid hz
    rw [← hz] at hl hq2 HV2 HRN ⊢
    have hz128 : 2 ^ z ≤ 128 ∧ 1 ≤ 2 ^ z := pow_bd z hl
    have HPZ := Lib.hid (fun (M : Int) (hM : M = ((2 ^ z : Nat) : Int)) => HP2.out (2 ^ z) M hM (by omega) (by omega))
    clear hz128
    clear hz hv
    have hzc : z = 2 ∨ z = 3 ∨ z = 4 ∨ z = 5 ∨ z = 6 ∨ z = 7 := by omega
    obtain rfl | rfl | rfl | rfl | rfl | rfl := hzc
    all_goals
      go_wp2_with (first
        | (go_at_call 45; refine HRN.out.mono ?_; rintro e w' ⟨rfl, rfl⟩)
        | (go_at_call_of 28 (Value.int IntKind.i64 24)
           refine HP5.out.mono ?_
           rintro e w6 ⟨⟨v6, hv6, rfl⟩, h1, hg, h3⟩
           have HB6 := Lib.hid (below_grown HB5.out hg hlt5)
           have HV6 := Lib.hid ((HV5.out.grown5 hg hlt).newR (by rw [← HZ.out]; exact hl))
           obtain ⟨q6, hq6⟩ : ∃ q6, q6 = v6 / 23 := ⟨_, rfl⟩
           have t6 : Int.tdiv (v6 : Int) 23 = (q6 : Int) := by rw [Int.tdiv_eq_ediv_of_nonneg (by omega), hq6]; simp
           have k6 : q6 ≤ 1 := by omega
           have x6 : IntKind.i64.wrap (q6 : Int) = (q6 : Int) := IntWalk.i64_in _ (by omega)
           have y6 : IntKind.i64.wrap ((v5 : Int) - (q6 : Int)) = (v5 : Int) - (q6 : Int) := IntWalk.i64_in _ (by omega)
           clear h1 hg h3)
        | (go_at_call 28
           refine (HPZ.out _ (by first | decide | rfl)).mono ?_
           rintro e w5 ⟨⟨v5, hv5, rfl⟩, h1, hg, h3⟩
           have HB5 := Lib.hid (below_grown HB2.out hg hlt2)
           have HY5 := Lib.hid (HY2.out.grown hg hH)
           have HV5 := Lib.hid (HV2.out.grown5 hg hlt)
           have hlt5 := h1.lt
           have HP5 := Lib.hid (HPN.out w5 _ 24 24 rfl h1 HY5.out (by omega) (by omega) (by omega))
           clear h1 hg h3))
      go_ret2
      exact ⟨_, l, _, rfl, HV6.out, ⟨by rw [← HZ.out]; omega, by rw [← HZ.out]; exact hl⟩, by rw [HRq.out]; exact HB6.out⟩
  rw [ring_yes hr] at HRN
  have HALL := Lib.hid (fun (V : World) (hV : Rd V V.heap.size Av l.length l) => allS_any Av l.length cv V.heap.size l V hV (Nat.le_refl _) hr.1.1 hr.1.2.1 (fun x hx => by have := hr.1.2.2.1 x hx; have := hr.1.2.1; omega))
  have hpos := allA_pos hr
  have hlen : (allA l).length ≤ 127 := by have := arcsTo_len (isA l) (2 ^ l.length - 1); have := (pow_bd l.length hl).1; unfold allA; omega
  clear hr
  go_wp2_with (go_at_call 45; refine HRN.out.mono ?_; rintro e w' ⟨rfl, rfl⟩)
  refine (HP2.out 2 _ rfl (by omega) (by omega)).mono ?_
  rintro e w3 ⟨⟨v3, hv3, rfl⟩, h1, hg, h3⟩
  have HB3 := Lib.hid (below_grown HB2.out hg hlt2)
  have HY3 := Lib.hid (HY2.out.grown hg hH)
  have HV3 := Lib.hid (HV2.out.grown5 hg hlt)
  have hlt3 := h1.lt
  have HP3 := Lib.hid (fun (m : Nat) (M : Int) (hM : M = (m : Int)) (hm1 : 1 ≤ m) (hm : m ≤ 1000) => HPN.out w3 _ m M hM h1 HY3.out (by omega) hm1 hm)
  have HR3 := Lib.hid h1
  clear h1 hg h3 HP2 hv HRN HB2 HY2 HV2
  obtain rfl | rfl : v3 = 1 ∨ v3 = 0 := by omega
  · clear HALL hpos hlen HR3
    obtain ⟨z, hz⟩ : ∃ z, z = l.length := ⟨_, rfl⟩
    have HZ := Lib.hid hz
    rw [← hz] at hl hq2 HV3 ⊢
    have hz128 : 2 ^ z ≤ 128 ∧ 1 ≤ 2 ^ z := pow_bd z hl
    have HPZ := Lib.hid (fun (M : Int) (hM : M = ((2 ^ z : Nat) : Int)) => HP3.out (2 ^ z) M hM (by omega) (by omega))
    clear hz128
    clear hz
    have hzc : z = 2 ∨ z = 3 ∨ z = 4 ∨ z = 5 ∨ z = 6 ∨ z = 7 := by omega
    obtain rfl | rfl | rfl | rfl | rfl | rfl := hzc
    all_goals
      go_wp2_with (first
        | (go_at_call_of 28 (Value.int IntKind.i64 24)
           refine HP5.out.mono ?_
           rintro e w6 ⟨⟨v6, hv6, rfl⟩, h1, hg, h3⟩
           have HB6 := Lib.hid (below_grown HB5.out hg hlt5)
           have HV6 := Lib.hid ((HV5.out.grown5 hg hlt).newR (by rw [← HZ.out]; exact hl))
           obtain ⟨q6, hq6⟩ : ∃ q6, q6 = v6 / 23 := ⟨_, rfl⟩
           have t6 : Int.tdiv (v6 : Int) 23 = (q6 : Int) := by rw [Int.tdiv_eq_ediv_of_nonneg (by omega), hq6]; simp
           have k6 : q6 ≤ 1 := by omega
           have x6 : IntKind.i64.wrap (q6 : Int) = (q6 : Int) := IntWalk.i64_in _ (by omega)
           have y6 : IntKind.i64.wrap ((v5 : Int) - (q6 : Int)) = (v5 : Int) - (q6 : Int) := IntWalk.i64_in _ (by omega)
           clear h1 hg h3)
        | (go_at_call 28
           refine (HPZ.out _ (by first | decide | rfl)).mono ?_
           rintro e w5 ⟨⟨v5, hv5, rfl⟩, h1, hg, h3⟩
           have HB5 := Lib.hid (below_grown HB3.out hg hlt3)
           have HY5 := Lib.hid (HY3.out.grown hg hH)
           have HV5 := Lib.hid (HV3.out.grown5 hg hlt)
           have hlt5 := h1.lt
           have HP5 := Lib.hid (HPN.out w5 _ 24 24 rfl h1 HY5.out (by omega) (by omega) (by omega))
           clear h1 hg h3))
      go_ret2
      exact ⟨_, l, _, rfl, HV6.out, ⟨by rw [← HZ.out]; omega, by rw [← HZ.out]; exact hl⟩, by rw [HRq.out]; exact HB6.out⟩
  · clear HP3
    have hrd3 := HV3.out.1.rd.2
    have HA3 := Lib.hid (HALL.out w3 hrd3)
    clear HALL hrd3
    go_wp2_with fail
    refine HA3.out.mono ?_
    rintro e w4 ⟨va, rfl, hoa, hb4⟩
    have hR4 := HR3.out.same (hb4.block R HR3.out.lt)
    have HY4 := Lib.hid (HY3.out.below (hb4.mono (by omega)))
    have HB4 := Lib.hid (HB3.out.trans (hb4.mono (by omega)))
    have HV4 : Hid (RowV w4 w1.heap.size (.slice Av l.length cv) l) := HV3.out.below5 hb4
    have hlt4 := hR4.lt
    obtain ⟨g, ca, rfl, _, hcs⟩ := own_head7 hoa (by omega)
    have hgl := own_block7 hoa
    have hw34 := hb4.size
    obtain ⟨m, hm⟩ : ∃ m, m = (allA l).length := ⟨_, rfl⟩
    rw [← hm] at hpos hlen hcs ⊢
    have HPA := Lib.hid (fun M (hM : M = (m : Int)) => HPN.out w4.drew _ m M hM hR4 HY4.out (by omega) hpos (by omega))
    have HCS := Lib.hid hcs
    clear hoa hb4 hcs hR4 HA3 hm HPN
    go_wp2_with fail
    go_region_held3 (fun V => ∀ k, k < m → V.cell? ⟨g, k, none⟩ = some (.int .i64 ((allA l).getD k 0)))
      (first
        | exact hcs5
        | exact HCS.out)
      (first
        | (go_at_call 28
           refine (HPA.out _ rfl).mono ?_
           rintro e w5 ⟨⟨v5, hv5, rfl⟩, h1, hg, h3⟩
           have hcs5 : ∀ k, k < m → w5.cell? ⟨g, k, none⟩ = some (.int .i64 ((allA l).getD k 0)) := fun k hk => by
             rw [← HCS.out k hk]
             have e := hg.block g (show g < w4.heap.size by omega) (by simp; omega)
             show w5.cell? _ = w4.cell? _
             simp only [World.cell?]
             rw [e]
             rfl
           have HB5 := Lib.hid (below_grown HB4.out.drew hg hlt4)
           have HV5 := Lib.hid ((RowV.grown5 (w := w4.drew) HV4.out hg hlt).newR hl)
           clear h1 hg h3))
    all_goals
      go_wp2
      go_ret2
      exact ⟨_, l, _, rfl, HV5.out, ⟨hq2, hl⟩, by rw [HRq.out]; exact HB5.out⟩

end Go.Proofs.YtmfilnpbkonfaabDoor
