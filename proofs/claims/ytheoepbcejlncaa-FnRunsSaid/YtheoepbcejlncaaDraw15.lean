/- The laws' drawer of a ring and a set of its points. -/
import Derived.Test.YtheoepbcejlncaaDraw6
import Derived.Test.YtheoepbcejlncaaArA
import Derived.OwnWalk
import Derived.Deep.RegionHeld3
namespace Go.Proofs.Ytheoepbcejlncaa
open Go.ChangeShapes Go.WideShapes Go.ChangeAt Go.RowKit

/-- A ring has an arc: its first point. -/
theorem bitsL_zero (l : List Int) (h : ∀ x ∈ l, 1 ≤ x) : bitsL (hasN 1) l = 0 := by
  induction l with
  | nil => rfl
  | cons x l ih =>
    have hx := h x (by simp)
    have e : hasN 1 x = false := by
      unfold hasN
      obtain ⟨k, rfl⟩ : ∃ k : Nat, x = ((k + 1 : Nat) : Int) := ⟨x.toNat - 1, by omega⟩
      rw [Int.toNat_natCast, Nat.testBit_succ]
      simp
    rw [bitsL, e, ih fun y hy => h y (by simp [hy])]
    rfl
theorem isA_one {l : List Int} (hr : Ring l) : isA l 1 = true := by
  match l, hr with
  | [], hr => have := hr.1.1; simp at this
  | x :: t, hr =>
    have hx : x = 0 := by simpa [List.getD] using hr.2
    subst hx
    have ht : ∀ y ∈ t, 1 ≤ y := fun y hy => by
      have h1 := hr.1.2.2.1 y (by simp [hy])
      have h2 := (List.nodup_cons.1 hr.1.2.2.2).1
      have : y ≠ 0 := fun e => h2 (by rw [← e]; exact hy)
      omega
    have hb : bitsL (hasN 1) ((0 : Int) :: t) = 1 := by
      rw [bitsL, bitsL_zero t ht]
      rfl
    have hn := hr.1.1
    have hn7 := hr.1.2.1
    rw [isA, decide_eq_true_eq, runN, runP, List.length_map, filter_range_congr fun i hi => (begs_bits (hasN 1) _ i hi).1, hb]
    generalize ((0 : Int) :: t).length = n at *
    obtain rfl | rfl | rfl | rfl | rfl : n = 3 ∨ n = 4 ∨ n = 5 ∨ n = 6 ∨ n = 7 := by omega
    all_goals decide
theorem allA_pos {l : List Int} (hr : Ring l) : 1 ≤ (allA l).length := by
  have hn := hr.1.1
  have h8 : 2 ^ 3 ≤ 2 ^ l.length := Nat.pow_le_pow_right (by omega) hn
  have : (1 : Int) ∈ allA l := by
    simp only [allA, arcsTo, List.mem_map, List.mem_filter, List.mem_range]
    exact ⟨1, ⟨by omega, isA_one hr⟩, rfl⟩
  exact List.length_pos_of_mem this

theorem own_head7 {w : World} {B : Nat} {v : Value} {l : List Int} (h : Own w B v l) (hl : 0 < l.length) :
    ∃ g cap, v = .slice (some ⟨g, 0, none⟩) l.length cap ∧ l.length ≤ cap ∧ ∀ k, k < l.length → w.cell? ⟨g, k, none⟩ = some (.int .i64 (l.getD k 0)) := by
  rcases h.2 with ⟨_, h0⟩ | ⟨g, cap, cur, rfl, hg, hh, hnc, hcm, hcs, ht⟩
  · omega
  · refine ⟨g, cap, rfl, hnc, fun k hk => ?_⟩
    rw [h.cellAt k (by omega), ints_get _ _ hk]
theorem own_block7 {w : World} {B g n c : Nat} {l : List Int} (h : Own w B (.slice (some ⟨g, 0, none⟩) n c) l) : B ≤ g ∧ g < w.heap.size := World.ownsRow.lt h g rfl

set_option maxRecDepth 10000 in
set_option maxHeartbeats 4000000 in
theorem set92_any (n c H : Nat) (A : Option Addr) (w : World) (hb : Byt w H A n) (hH : H ≤ w.heap.size) (hnc : n ≤ c) (hc : c ≤ 9223372036854775807) :
    Calls Try.prog 42 #[.slice A n c] w fun e w' => ∃ v l x, e = .returned (.tuple #[v, .int .i64 x]) ∧ NewR w' v l ∧ (2 ≤ l.length ∧ l.length ≤ 7) ∧ Below w.heap.size w w' := by
  have HOP := Lib.hid (openS_any n c H A w hb hH hnc hc)
  clear hb
  go_enter Try.func42, Try.ntmps42
  go_wp2_with fail
  refine HOP.out.mono ?_
  rintro e w1 ⟨rfl, ⟨n', hn', h1, h2⟩, hb1⟩
  have HRG := Lib.hid (ring91_any w.heap.size n' c H 0 7 A w1 h1 h2 hH (by omega) hn' (by omega) (by omega))
  have HB1 := Lib.hid hb1
  have HY1 := Lib.hid h2
  have hlt := h1.lt
  generalize hR : w.heap.size = R at *
  have HRq := Lib.hid hR
  clear h1 h2 hb1 HOP hR
  go_wp2_with fail
  refine HRG.out.mono ?_
  rintro e w2 ⟨v, l, q, rfl, hv, ⟨hl, h1, hq⟩, hg⟩
  have HB2 := Lib.hid (below_grown HB1.out hg hlt)
  have HY2 := Lib.hid (HY1.out.grown hg hH)
  obtain ⟨Av, cv, ev, hcv1, hcv2⟩ := hv.2
  subst ev
  have HV2 := Lib.hid hv
  have hlt2 := h1.lt
  have HRN := Lib.hid (ringS_any Av l.length cv w2.heap.size l w2 hv.1.rd.2 (by omega))
  have HPN : Hid (∀ (V : World) (p m : Nat) (M : Int), M = (m : Int) → RdAt V R A n' c p → Byt V H A n' → p ≤ 1000 → 1 ≤ m → m ≤ 1000 → Calls Try.prog 72 #[.pointer (some ⟨R, 0, none⟩), .int .i64 M] V fun e w' => (∃ v : Nat, v < m ∧ e = .returned (.int .i64 (v : Int))) ∧ RdAt w' R A n' c (p + 1) ∧ V.grownBy w' (some R) ∧ w'.heap.size = V.heap.size) := fun V p m M hM h1 h2 h3 hm1 hm => by rw [hM]; exact pick_any R n' c H p m A V h1 h2 hH (by omega) hn' hm1 hm
  have hq20 : q ≤ 20 := by omega
  have HP2 := Lib.hid (fun (m : Nat) (M : Int) (hM : M = (m : Int)) (hm1 : 1 ≤ m) (hm : m ≤ 1000) => HPN.out w2 q m M hM h1 HY2.out (by omega) hm1 hm)
  have hq2 : 2 ≤ l.length := hq.2
  clear h1 hg HB1 HRG HY1 hq
  by_cases hr : Ring l
  rotate_left
  · rw [ring_no hr] at HRN
    obtain ⟨z, hz⟩ : ∃ z, z = l.length := ⟨_, rfl⟩
    have HZ := Lib.hid hz
    rw [← hz] at hl hq2 HV2 HRN ⊢
    have hz128 : 2 ^ z ≤ 128 ∧ 1 ≤ 2 ^ z := pow_bd z hl
    have HPZ := Lib.hid (fun (M : Int) (hM : M = ((2 ^ z : Nat) : Int)) => HP2.out (2 ^ z) M hM (by omega) (by omega))
    clear hz128
    clear hz hv
    have hzc : z = 2 ∨ z = 3 ∨ z = 4 ∨ z = 5 ∨ z = 6 ∨ z = 7 := by omega
    obtain rfl | rfl | rfl | rfl | rfl | rfl := hzc
    all_goals
      go_wp2_with (first
        | (go_at_call 53; refine HRN.out.mono ?_; rintro e w' ⟨rfl, rfl⟩)
        | (go_at_call_of 72 (Value.int IntKind.i64 24)
           refine HP5.out.mono ?_
           rintro e w6 ⟨⟨v6, hv6, rfl⟩, h1, hg, h3⟩
           have HB6 := Lib.hid (below_grown HB5.out hg hlt5)
           have HV6 := Lib.hid ((HV5.out.grown5 hg hlt).newR (by rw [← HZ.out]; exact hl))
           obtain ⟨q6, hq6⟩ : ∃ q6, q6 = v6 / 23 := ⟨_, rfl⟩
           have t6 : Int.tdiv (v6 : Int) 23 = (q6 : Int) := by rw [Int.tdiv_eq_ediv_of_nonneg (by omega), hq6]; simp
           have k6 : q6 ≤ 1 := by omega
           have x6 : IntKind.i64.wrap (q6 : Int) = (q6 : Int) := IntWalk.i64_in _ (by omega)
           have y6 : IntKind.i64.wrap ((v5 : Int) - (q6 : Int)) = (v5 : Int) - (q6 : Int) := IntWalk.i64_in _ (by omega)
           clear h1 hg h3)
        | (go_at_call 72
           refine (HPZ.out _ (by first | decide | rfl)).mono ?_
           rintro e w5 ⟨⟨v5, hv5, rfl⟩, h1, hg, h3⟩
           have HB5 := Lib.hid (below_grown HB2.out hg hlt2)
           have HY5 := Lib.hid (HY2.out.grown hg hH)
           have HV5 := Lib.hid (HV2.out.grown5 hg hlt)
           have hlt5 := h1.lt
           have HP5 := Lib.hid (HPN.out w5 _ 24 24 rfl h1 HY5.out (by omega) (by omega) (by omega))
           clear h1 hg h3))
      go_ret2
      exact ⟨_, l, _, rfl, HV6.out, ⟨by rw [← HZ.out]; omega, by rw [← HZ.out]; exact hl⟩, by rw [HRq.out]; exact HB6.out⟩
  rw [ring_yes hr] at HRN
  have HALL := Lib.hid (fun (V : World) (hV : Rd V V.heap.size Av l.length l) => allS_any Av l.length cv V.heap.size l V hV (Nat.le_refl _) hr.1.1 hr.1.2.1 (fun x hx => by have := hr.1.2.2.1 x hx; have := hr.1.2.1; omega))
  have hpos := allA_pos hr
  have hlen : (allA l).length ≤ 127 := by have := arcsTo_len (isA l) (2 ^ l.length - 1); have := (pow_bd l.length hl).1; unfold allA; omega
  clear hr
  go_wp2_with (go_at_call 53; refine HRN.out.mono ?_; rintro e w' ⟨rfl, rfl⟩)
  refine (HP2.out 2 _ rfl (by omega) (by omega)).mono ?_
  rintro e w3 ⟨⟨v3, hv3, rfl⟩, h1, hg, h3⟩
  have HB3 := Lib.hid (below_grown HB2.out hg hlt2)
  have HY3 := Lib.hid (HY2.out.grown hg hH)
  have HV3 := Lib.hid (HV2.out.grown5 hg hlt)
  have hlt3 := h1.lt
  have HP3 := Lib.hid (fun (m : Nat) (M : Int) (hM : M = (m : Int)) (hm1 : 1 ≤ m) (hm : m ≤ 1000) => HPN.out w3 _ m M hM h1 HY3.out (by omega) hm1 hm)
  have HR3 := Lib.hid h1
  clear h1 hg h3 HP2 hv HRN HB2 HY2 HV2
  obtain rfl | rfl : v3 = 1 ∨ v3 = 0 := by omega
  · clear HALL hpos hlen HR3
    obtain ⟨z, hz⟩ : ∃ z, z = l.length := ⟨_, rfl⟩
    have HZ := Lib.hid hz
    rw [← hz] at hl hq2 HV3 ⊢
    have hz128 : 2 ^ z ≤ 128 ∧ 1 ≤ 2 ^ z := pow_bd z hl
    have HPZ := Lib.hid (fun (M : Int) (hM : M = ((2 ^ z : Nat) : Int)) => HP3.out (2 ^ z) M hM (by omega) (by omega))
    clear hz128
    clear hz
    have hzc : z = 2 ∨ z = 3 ∨ z = 4 ∨ z = 5 ∨ z = 6 ∨ z = 7 := by omega
    obtain rfl | rfl | rfl | rfl | rfl | rfl := hzc
    all_goals
      go_wp2_with (first
        | (go_at_call_of 72 (Value.int IntKind.i64 24)
           refine HP5.out.mono ?_
           rintro e w6 ⟨⟨v6, hv6, rfl⟩, h1, hg, h3⟩
           have HB6 := Lib.hid (below_grown HB5.out hg hlt5)
           have HV6 := Lib.hid ((HV5.out.grown5 hg hlt).newR (by rw [← HZ.out]; exact hl))
           obtain ⟨q6, hq6⟩ : ∃ q6, q6 = v6 / 23 := ⟨_, rfl⟩
           have t6 : Int.tdiv (v6 : Int) 23 = (q6 : Int) := by rw [Int.tdiv_eq_ediv_of_nonneg (by omega), hq6]; simp
           have k6 : q6 ≤ 1 := by omega
           have x6 : IntKind.i64.wrap (q6 : Int) = (q6 : Int) := IntWalk.i64_in _ (by omega)
           have y6 : IntKind.i64.wrap ((v5 : Int) - (q6 : Int)) = (v5 : Int) - (q6 : Int) := IntWalk.i64_in _ (by omega)
           clear h1 hg h3)
        | (go_at_call 72
           refine (HPZ.out _ (by first | decide | rfl)).mono ?_
           rintro e w5 ⟨⟨v5, hv5, rfl⟩, h1, hg, h3⟩
           have HB5 := Lib.hid (below_grown HB3.out hg hlt3)
           have HY5 := Lib.hid (HY3.out.grown hg hH)
           have HV5 := Lib.hid (HV3.out.grown5 hg hlt)
           have hlt5 := h1.lt
           have HP5 := Lib.hid (HPN.out w5 _ 24 24 rfl h1 HY5.out (by omega) (by omega) (by omega))
           clear h1 hg h3))
      go_ret2
      exact ⟨_, l, _, rfl, HV6.out, ⟨by rw [← HZ.out]; omega, by rw [← HZ.out]; exact hl⟩, by rw [HRq.out]; exact HB6.out⟩
  · clear HP3
    have hrd3 := HV3.out.1.rd.2
    have HA3 := Lib.hid (HALL.out w3 hrd3)
    clear HALL hrd3
    go_wp2_with fail
    refine HA3.out.mono ?_
    rintro e w4 ⟨va, rfl, hoa, hb4⟩
    have hR4 := HR3.out.same (hb4.block R HR3.out.lt)
    have HY4 := Lib.hid (HY3.out.below (hb4.mono (by omega)))
    have HB4 := Lib.hid (HB3.out.trans (hb4.mono (by omega)))
    have HV4 : Hid (RowV w4 w1.heap.size (.slice Av l.length cv) l) := HV3.out.below5 hb4
    have hlt4 := hR4.lt
    obtain ⟨g, ca, rfl, _, hcs⟩ := own_head7 hoa (by omega)
    have hgl := own_block7 hoa
    have hw34 := hb4.size
    obtain ⟨m, hm⟩ : ∃ m, m = (allA l).length := ⟨_, rfl⟩
    rw [← hm] at hpos hlen hcs ⊢
    have HPA := Lib.hid (fun M (hM : M = (m : Int)) => HPN.out w4.drew _ m M hM hR4 HY4.out (by omega) hpos (by omega))
    have HCS := Lib.hid hcs
    clear hoa hb4 hcs hR4 HA3 hm HPN
    go_wp2_with fail
    go_region_held3 (fun V => ∀ k, k < m → V.cell? ⟨g, k, none⟩ = some (.int .i64 ((allA l).getD k 0)))
      (first
        | exact hcs5
        | exact HCS.out)
      (first
        | (go_at_call 72
           refine (HPA.out _ rfl).mono ?_
           rintro e w5 ⟨⟨v5, hv5, rfl⟩, h1, hg, h3⟩
           have hcs5 : ∀ k, k < m → w5.cell? ⟨g, k, none⟩ = some (.int .i64 ((allA l).getD k 0)) := fun k hk => by
             rw [← HCS.out k hk]
             have e := hg.block g (show g < w4.heap.size by omega) (by simp; omega)
             show w5.cell? _ = w4.cell? _
             simp only [World.cell?]
             rw [e]
             rfl
           have HB5 := Lib.hid (below_grown HB4.out.drew hg hlt4)
           have HV5 := Lib.hid ((RowV.grown5 (w := w4.drew) HV4.out hg hlt).newR hl)
           clear h1 hg h3))
    all_goals
      go_wp2
      go_ret2
      exact ⟨_, l, _, rfl, HV5.out, ⟨hq2, hl⟩, by rw [HRq.out]; exact HB5.out⟩

theorem drawArcIs_any (n c H : Nat) (A : Option Addr) (w : World) (hb : Byt w H A n) (hH : H ≤ w.heap.size) (hnc : n ≤ c) (hc : c ≤ 9223372036854775807) :
    Calls Try.prog 12 #[.slice A n c] w fun e w' => ∃ v l x, e = .returned (.tuple #[v, .int .i64 x]) ∧ NewR w' v l ∧ (2 ≤ l.length ∧ l.length ≤ 7) ∧ Below w.heap.size w w' := by
  have HD := Lib.hid (set92_any n c H A w hb hH hnc hc)
  clear hb
  go_enter Try.func12, Try.ntmps12
  go_wp2_with fail
  refine HD.out.mono ?_
  rintro e w1 ⟨v, l, x, rfl, ⟨A1, n1, c1, rfl, hr1⟩, hl, hb⟩
  have HR := Lib.hid hr1
  clear hr1
  go_wp2
  go_ret2
  exact ⟨_, l, x, rfl, ⟨A1, n1, c1, rfl, HR.out⟩, hl, hb⟩
theorem drawArcRuns_any (n c H : Nat) (A : Option Addr) (w : World) (hb : Byt w H A n) (hH : H ≤ w.heap.size) (hnc : n ≤ c) (hc : c ≤ 9223372036854775807) :
    Calls Try.prog 31 #[.slice A n c] w fun e w' => ∃ v l x, e = .returned (.tuple #[v, .int .i64 x]) ∧ NewR w' v l ∧ (2 ≤ l.length ∧ l.length ≤ 7) ∧ Below w.heap.size w w' := by
  have HD := Lib.hid (set92_any n c H A w hb hH hnc hc)
  clear hb
  go_enter Try.func31, Try.ntmps31
  go_wp2_with fail
  refine HD.out.mono ?_
  rintro e w1 ⟨v, l, x, rfl, ⟨A1, n1, c1, rfl, hr1⟩, hl, hb⟩
  have HR := Lib.hid hr1
  clear hr1
  go_wp2
  go_ret2
  exact ⟨_, l, x, rfl, ⟨A1, n1, c1, rfl, HR.out⟩, hl, hb⟩
end Go.Proofs.Ytheoepbcejlncaa
