/- How many rings have a pattern nowhere: the model, the program. -/
import Derived.Test.YtmfilnpbkonfaaaDoorPnX
namespace Go.Proofs.YtmfilnpbkonfaaaDoor
open Go.ChangeShapes Go.WideShapes Go.ChangeAt Go.RowKit

/-- Among the first k rings of n points, how many have the pattern nowhere. -/
def freK (n : Nat) (p : List Int) (k : Nat) : Nat := (List.range k).countP fun j : Nat => decide (mnyN (byL n (j : Int)) p = 0)
def freN (n : Nat) (p : List Int) : Nat := freK n p (facM n)
theorem freK_step (n : Nat) (p : List Int) (k : Nat) : freK n p (k + 1) = freK n p k + if mnyN (byL n (k : Int)) p = 0 then 1 else 0 := by
  unfold freK
  rw [List.range_succ, List.countP_append]
  simp [List.countP_cons]
theorem freK_le (n : Nat) (p : List Int) (k : Nat) : freK n p k ≤ k := by
  have := List.countP_le_length (p := fun j : Nat => decide (mnyN (byL n (j : Int)) p = 0)) (l := List.range k)
  rwa [List.length_range] at this
def Fre (n : Int) (p : List Int) : Prop := (3 ≤ n ∧ n ≤ 7) ∧ Ring p
instance (n : Int) (p : List Int) : Decidable (Fre n p) := by unfold Fre; infer_instance
def freB (n : Int) (p : List Int) : Bool := decide (Fre n p)
def freR (n : Int) (p : List Int) : Int := if Fre n p then (freN n.toNat p : Int) else 0
theorem freB_yes {n : Int} {p : List Int} (h : Fre n p) : freB n p = true := by simpa [freB] using h
theorem freB_no {n : Int} {p : List Int} (h : ¬ Fre n p) : freB n p = false := by simpa [freB] using h
theorem byL_tell8 (n j : Nat) (h3 : 3 ≤ n) (h7 : n ≤ 7) (hj : j < facM n) : Tell (byL n j) := (byL_is7 n j h3 h7 hj).tell h3 h7
theorem Own.keep8 {w w' : World} {B : Nat} {v : Value} {l : List Int} (h : Own w B v l) (hb : Below w.heap.size w w') : Own w' B v l := by
  refine ⟨h.1, ?_⟩
  rcases h.2 with e | ⟨g, cap, cur, hv, hg, hh, r⟩
  · exact .inl e
  · exact .inr ⟨g, cap, cur, hv, hg, by rw [hb.block g (Array.getElem?_eq_some_iff.1 hh).1]; exact hh, r⟩
theorem ldE8 {w : World} {B g n c k : Nat} {M : List (List Int)} (h : RowN w B 38 7 (.slice (some ⟨g, 0, none⟩) n c) M) (hk : k < M.length) : (ldR ⟨g, k * 7, none⟩).run Tryd.prog w = .ok (.agg (ints (rowK M k)).toArray) w := by
  obtain ⟨g', c', e, _, _, _, _, hlen, hc⟩ := h.elem hk
  injection e with e1 _ _
  injection e1 with e1
  injection e1 with e1
  subst e1
  exact run_load_at w 38 g (k * 7) (ints (rowK M k)) _ hc rfl Tryd.underlying38 (by rw [ring_size, ints_length, hlen])

set_option maxRecDepth 10000 in
set_option maxHeartbeats 2000000 in
theorem freS_any (A : Option Addr) (m c H : Nat) (q : Int) (p : List Int) (w : World) (h : Rd w H A m p) (hH : H ≤ w.heap.size) (hm : m ≤ 1048576) :
    Calls Tryd.prog 9 #[.int .i64 q, .slice A m c] w fun e w' => e = .returned (.tuple #[.int .i64 (freR q p), .bool (freB q p)]) ∧ Below w.heap.size w w' := by
  have HIN := Lib.hid (in_any q 3 7 w)
  have HRI := Lib.hid (ringS_any A m c H p w h hm)
  by_cases hn : 3 ≤ q ∧ q ≤ 7
  rotate_left
  · have E : ¬ Fre q p := fun hf => hn hf.1
    rw [freR, if_neg E, freB_no E]
    have hd : (decide (3 ≤ q) && decide (q ≤ 7)) = false := by rw [Bool.and_eq_false_iff, decide_eq_false_iff_not, decide_eq_false_iff_not]; omega
    rw [hd] at HIN
    clear hn E hd h
    go_enter Tryd.func9, Tryd.ntmps9
    go_wp2_with (go_at_call 27; refine HIN.out.mono ?_; rintro e w' ⟨rfl, rfl⟩)
    go_ret2
    exact ⟨rfl, Below.refl _ _⟩
  have hd : (decide (3 ≤ q) && decide (q ≤ 7)) = true := by rw [Bool.and_eq_true, decide_eq_true_iff, decide_eq_true_iff]; omega
  rw [hd] at HIN
  by_cases hr : Ring p
  rotate_left
  · have E : ¬ Fre q p := fun hf => hr hf.2
    rw [freR, if_neg E, freB_no E]
    rw [ring_no hr] at HRI
    clear hn E hd h hr
    go_enter Tryd.func9, Tryd.ntmps9
    go_wp2_with (first
      | (go_at_call 27; refine HIN.out.mono ?_; rintro e w' ⟨rfl, rfl⟩)
      | (go_at_call 28; refine HRI.out.mono ?_; rintro e w' ⟨rfl, rfl⟩))
    go_ret2
    exact ⟨rfl, Below.refl _ _⟩
  have E : Fre q p := ⟨hn, hr⟩
  obtain ⟨n, rfl⟩ : ∃ n : Nat, q = (n : Int) := ⟨q.toNat, by omega⟩
  have h3 : 3 ≤ n := by omega
  have h7 : n ≤ 7 := by omega
  obtain ⟨hf1, hf2, hf3, hf4⟩ := facM_eq7 n h3 h7
  have HFM := Lib.hid hf1
  rw [ring_yes hr] at HRI
  rw [freR, if_pos E, freB_yes E, Int.toNat_natCast]
  have HL := Lib.hid h.len
  have HFACT := Lib.hid (fun W => facS_nat (n - 1) ((n : Int) - 1) W (by omega) (by omega))
  rw [← HFM.out] at HFACT
  have HBY := Lib.hid (fun (k : Nat) (hk : k < facM n) W => byS_any n (k : Int) W h3 h7 (by omega) (by have := HFM.out; omega))
  have HLN := Lib.hid (fun k : Nat => byL_length n (k : Int))
  have HMY := Lib.hid (fun (k : Nat) (hk : k < facM n) (A' : Option Addr) (c' : Nat) (W : World) (hb : Below w.heap.size w W) (hR : Rd W W.heap.size A' n (byL n (k : Int))) => manyS_any A' n c' A m c W.heap.size (byL n (k : Int)) p W hR ((h.below (hb.mono hH)).more (Nat.le_trans hH hb.size)) (Nat.le_refl _) (byL_tell8 n k h3 h7 hk) hr.1)
  have HM0 : Hid (n < m → ∀ k : Nat, mnyN (byL n (k : Int)) p = 0) := fun hlt k => mny_short (by rw [byL_length, HL.out]; exact hlt)
  have HST := Lib.hid (freK_step n p)
  have HLE := Lib.hid (freK_le n p)
  have HM7 := Lib.hid (fun k : Nat => mny_le (l := byL n (k : Int)) p (by rw [byL_length]; exact h7))
  have H0 : Hid (freK n p 0 = 0) := rfl
  unfold freN
  generalize facM n = N at *
  clear hn E hd h hr hf1 hf4
  go_enter Tryd.func9, Tryd.ntmps9
  go_wp2_with (first
    | (go_at_call 27; refine HIN.out.mono ?_; rintro e w' ⟨rfl, rfl⟩)
    | (go_at_call 28; refine HRI.out.mono ?_; rintro e w' ⟨rfl, rfl⟩))
  go_loopw [6, 7] (fun s i wr => ∃ k : Nat, k ≤ N ∧ i = .int .i64 k ∧ (∃ z : Nat, s = .int .i64 (z : Int) ∧ Hid (z = freK n p k)) ∧ Hid (Below w.heap.size w wr)) (fun _ i _ => N - (intOf i).toNat)
  case atStart => exact ⟨0, Nat.zero_le _, rfl, ⟨0, rfl, H0.out.symm⟩, Below.refl _ _⟩
  case round =>
    obtain ⟨k, hk, rfl, ⟨z, rfl, hz⟩, hbl⟩ := hrel
    have hzk : z ≤ k := by rw [hz.out]; exact HLE.out k
    go_wp2_with fail
    refine (HFACT.out _).mono ?_
    rintro e w' ⟨rfl, rfl⟩
    by_cases hlt : k < N
    · have T := HST.out k
      rw [← hz.out] at T
      by_cases hmn : n < m
      · rw [HM0.out hmn k, if_pos rfl] at T
        have HT := Lib.hid T.symm
        clear T hz
        go_wp2
        go_roundw
        case rel => exact ⟨k + 1, by omega, by go_num, ⟨z + 1, by go_num, HT⟩, hbl⟩
        case measure => simp [intOf]; omega
      · have HBK := Lib.hid (HBY.out k hlt)
        have HMK := Lib.hid (HMY.out k hlt)
        have hy7 := HM7.out k
        clear hz
        generalize hy : mnyN (byL n (k : Int)) p = y at *
        clear hy
        by_cases h0 : y = 0
        · subst h0
          rw [if_pos rfl] at T
          have HT := Lib.hid T.symm
          clear T
          go_wp2_with fail
          refine (HBK.out _).mono ?_
          rintro e w2 ⟨v2, rfl, ho2, hb2⟩
          obtain ⟨A2, c2, rfl⟩ := ho2.slice
          have hrd := ho2.rd.2
          rw [HLN.out] at hrd ⊢
          have HB2 := Lib.hid (hbl.out.trans (hb2.mono hbl.out.size))
          have HM2 := Lib.hid (HMK.out A2 c2 w2 HB2.out hrd)
          clear ho2 hb2 hrd HMK hbl
          go_wp2_with fail
          refine HM2.out.mono ?_
          rintro e w3 ⟨rfl, hb3⟩
          have HB3 := Lib.hid (HB2.out.trans (hb3.mono HB2.out.size))
          clear hb3
          go_wp2
          go_roundw
          case rel => exact ⟨k + 1, by omega, by go_num, ⟨z + 1, by go_num, HT⟩, HB3⟩
          case measure => simp [intOf]; omega
        · rw [if_neg h0, Nat.add_zero] at T
          have HT := Lib.hid T.symm
          have hy0 : ((y : Int) == 0) = false := by simp; omega
          clear T
          go_wp2_with fail
          refine (HBK.out _).mono ?_
          rintro e w2 ⟨v2, rfl, ho2, hb2⟩
          obtain ⟨A2, c2, rfl⟩ := ho2.slice
          have hrd := ho2.rd.2
          rw [HLN.out] at hrd ⊢
          have HB2 := Lib.hid (hbl.out.trans (hb2.mono hbl.out.size))
          have HM2 := Lib.hid (HMK.out A2 c2 w2 HB2.out hrd)
          clear ho2 hb2 hrd HMK hbl
          go_wp2_with fail
          refine HM2.out.mono ?_
          rintro e w3 ⟨rfl, hb3⟩
          have HB3 := Lib.hid (HB2.out.trans (hb3.mono HB2.out.size))
          clear hb3
          go_wp2
          go_roundw
          case rel => exact ⟨k + 1, by omega, by go_num, ⟨z, rfl, HT⟩, HB3⟩
          case measure => simp [intOf]; omega
    · obtain rfl : k = N := by omega
      have hz' := hz.out
      subst hz'
      go_wp2
      go_ret2
      exact ⟨rfl, hbl.out⟩

attribute [local go_sem ↓] ldR_fold stR_fold in
set_option maxRecDepth 10000 in
set_option maxHeartbeats 2000000 in
theorem freI_any (A : Option Addr) (m c H : Nat) (q : Int) (p : List Int) (w : World) (h : Rd w H A m p) (hH : H ≤ w.heap.size) (hm : m ≤ 1048576) (hmc : m ≤ c) (hcm : c ≤ 9223372036854775807) (hT : Tab w) :
    Calls Tryd.prog 8 #[.int .i64 q, .slice A m c] w fun e w' => e = .returned (.tuple #[.int .i64 (freR q p), .bool (freB q p)]) ∧ Below w.heap.size w w' := by
  have HRR := Lib.hid (readR_any A m c H p w h hH hm hmc hcm)
  have HSI := Lib.hid (fun W => sizeIn_any q W)
  have H7 := ringP_length p
  have HTB := Lib.hid (fun (W : World) (hb : Below w.heap.size w W) => hT.on hb)
  clear h hT
  by_cases hr : Ring p
  rotate_left
  · have E : ¬ Fre q p := fun hf => hr hf.2
    rw [freR, if_neg E, freB_no E]
    rw [ring_no hr] at HRR
    clear E hr
    generalize ringP p = P at *
    go_enter Tryd.func8, Tryd.ntmps8
    go_wp2_with fail
    refine HRR.out.mono ?_
    rintro e w1 ⟨rfl, hb1⟩
    obtain ⟨W2, r2, hx2, hg2, hs2⟩ := stR_run (Q := P) (new_ring w1) rfl H7
    have HB2 : Hid (Below w.heap.size w W2) := (hb1.alloc hb1.size _).grown hg2 (by have := hb1.size; simp; omega) (by have := hb1.size; simp; omega)
    clear hb1 hx2 hg2 hs2
    go_wp2
    go_ret2
    exact ⟨rfl, HB2.out⟩
  rw [ring_yes hr] at HRR
  by_cases hn : 3 ≤ q ∧ q ≤ 7
  rotate_left
  · have E : ¬ Fre q p := fun hf => hn hf.1
    rw [freR, if_neg E, freB_no E]
    have hd : (decide (3 ≤ q) && decide (q ≤ 7)) = false := by rw [Bool.and_eq_false_iff, decide_eq_false_iff_not, decide_eq_false_iff_not]; omega
    rw [hd] at HSI
    clear hn E hd hr
    generalize ringP p = P at *
    go_enter Tryd.func8, Tryd.ntmps8
    go_wp2_with fail
    refine HRR.out.mono ?_
    rintro e w1 ⟨rfl, hb1⟩
    obtain ⟨W2, r2, hx2, hg2, hs2⟩ := stR_run (Q := P) (new_ring w1) rfl H7
    have HB2 : Hid (Below w.heap.size w W2) := (hb1.alloc hb1.size _).grown hg2 (by have := hb1.size; simp; omega) (by have := hb1.size; simp; omega)
    clear hb1 hx2 hg2 hs2
    go_wp2_with (go_at_call 24; refine (HSI.out _).mono ?_; rintro e w' ⟨rfl, rfl⟩)
    go_ret2
    exact ⟨rfl, HB2.out⟩
  have hd : (decide (3 ≤ q) && decide (q ≤ 7)) = true := by rw [Bool.and_eq_true, decide_eq_true_iff, decide_eq_true_iff]; omega
  rw [hd] at HSI
  have E : Fre q p := ⟨hn, hr⟩
  obtain ⟨n, rfl⟩ : ∃ n : Nat, q = (n : Int) := ⟨q.toNat, by omega⟩
  have h3 : 3 ≤ n := by omega
  have h7 : n ≤ 7 := by omega
  have hf3 := (facM_eq7 n h3 h7).2.2.1
  have hf2 := (facM_eq7 n h3 h7).2.1
  rw [freR, if_pos E, freB_yes E, Int.toNat_natCast]
  unfold freN
  have HALL := Lib.hid (fun W => allRings7_any n W h3 h7)
  have HML : Hid ((padM (ringsL n)).length = facM n) := by simp [padM, ringsL_length, Hid]
  have HROW : Hid (∀ k, k < facM n → rowK (padM (ringsL n)) k = padR (byL n (k : Int))) := fun k hk => by
    simp [padM, ringsL, rowK, List.getD, hk]
  have HP7 := Lib.hid (fun (k : Nat) => padR_length (byL n (k : Int)) (by rw [byL_length]; omega))
  have HSW := Lib.hid (fun (k : Nat) (hk : k < facM n) (W : World) (hW : Tab W) => setsW_any (byL n (k : Int)) p W (byL_tell8 n k h3 h7 hk) hr.1 hW)
  have HSL := Lib.hid (fun k : Nat => sw_mny (byL n (k : Int)) p)
  have HST := Lib.hid (freK_step n p)
  have HLE := Lib.hid (freK_le n p)
  have H0 : Hid (freK n p 0 = 0) := rfl
  have e1 : ringP p = padR p := by rw [ringP, if_pos hr]
  rw [e1] at HRR H7
  unfold agp at HSW
  clear hn E hd hr e1
  generalize facM n = N at *
  generalize padR p = P at *
  obtain ⟨q0, q1, q2, q3, q4, q5, q6, rfl⟩ := seven H7
  simp only [ints, List.map_cons, List.map_nil] at HRR
  go_enter Tryd.func8, Tryd.ntmps8
  go_wp2_with fail
  refine HRR.out.mono ?_
  rintro e w1 ⟨rfl, hb1⟩
  obtain ⟨W2, r2, hx2, hg2, hs2⟩ := stR_run (Q := [q0, q1, q2, q3, q4, q5, q6]) (new_ring w1) rfl rfl
  have HB2 : Hid (Below w.heap.size w W2) := (hb1.alloc hb1.size _).grown hg2 (by have := hb1.size; simp; omega) (by have := hb1.size; simp; omega)
  have HX2 := Lib.hid hx2
  have hs1 := hb1.size
  simp only [ints, List.map_cons, List.map_nil] at r2
  clear hb1 hx2 hg2 hs2
  generalize hG : w1.heap.size = G at *
  go_wp2_with (go_at_call 24; refine (HSI.out _).mono ?_; rintro e w' ⟨rfl, rfl⟩)
  clear r2
  refine (HALL.out W2).mono ?_
  rintro e w3 ⟨v3, rfl, hrow, hb3⟩
  obtain ⟨gr, cr, rfl, hgr, hgs, hNc, hcm⟩ : ∃ gr cr, v3 = .slice (some ⟨gr, 0, none⟩) N cr ∧ W2.heap.size ≤ gr ∧ gr < w3.heap.size ∧ N ≤ cr ∧ cr ≤ maxLen := by
    obtain ⟨g, c, e, h1, h2, h3, h4, _⟩ := hrow.elem (k := 0) (by rw [HML.out]; omega)
    rw [HML.out] at e h3
    exact ⟨g, c, e, h1, h2, h3, h4⟩
  have hGW := HX2.out.lt
  have HX3 := Lib.hid (HX2.out.below hb3 HX2.out.lt)
  have HB3 := Lib.hid (HB2.out.trans (hb3.mono HB2.out.size))
  have HW3 := Lib.hid (hrow.less (B' := G + 1) (by omega))
  clear hrow hb3 HX2 HB2
  generalize padM (ringsL n) = M at *
  go_wp2
  go_loopw [8, 26] (fun s i wr => ∃ k : Nat, k ≤ N ∧ i = .int .i64 k ∧ (∃ z : Nat, s = .int .i64 (z : Int) ∧ Hid (z = freK n p k)) ∧ Hid (RowN wr (G + 1) 38 7 (.slice (some ⟨gr, 0, none⟩) N cr) M) ∧ Hid (Arr wr G [q0, q1, q2, q3, q4, q5, q6]) ∧ Hid (Below w.heap.size w wr)) (fun _ i _ => N - (intOf i).toNat)
  case atStart => exact ⟨0, Nat.zero_le _, rfl, ⟨0, rfl, H0.out.symm⟩, HW3, HX3, HB3⟩
  case round =>
    obtain ⟨k, hk, rfl, ⟨z, rfl, hz⟩, hrow, hx, hbl⟩ := hrel
    clear HW3 HX3 HB3
    have hzk : z ≤ k := by rw [hz.out]; exact HLE.out k
    by_cases hlt : k < N
    · have e1 := ldE8 hrow.out (k := k) (by rw [HML.out]; exact hlt)
      rw [HROW.out k hlt] at e1
      have HT1 := HSW.out k hlt
      have h77 := HP7.out k
      have T := HST.out k
      rw [← hz.out] at T
      have HLK := Lib.hid (HSL.out k)
      generalize padR (byL n (k : Int)) = P at *
      obtain ⟨p0, p1, p2, p3, p4, p5, p6, rfl⟩ := seven h77
      obtain ⟨W5, r5, hx5, hg5, hs5⟩ := stR_run (Q := [p0, p1, p2, p3, p4, p5, p6]) (new_ring wr) rfl rfl
      have hb5 : Below wr.heap.size wr W5 := ((Below.refl _ wr).alloc (Nat.le_refl _) _).grown hg5 (by simp) (by simp)
      have hx6 := hx.out.below hb5 hx.out.lt
      have l3 := ldR_run hx5 rfl
      have l4 := ldR_run hx6 rfl
      have HR5 := Lib.hid (hrow.out.below hb5 (fun i hi => (hrow.out.lt i hi).2))
      have HX5 := Lib.hid hx6
      have HB5 := Lib.hid (hbl.out.trans (hb5.mono hbl.out.size))
      have HT := Lib.hid (HT1 W5 (HTB.out W5 HB5.out))
      simp only [ints, List.map_cons, List.map_nil] at HT r5 l3 l4 e1
      generalize mnyN (byL n (k : Int)) p = y at *
      generalize swL (byL n (k : Int)) p = L at *
      clear hb5 hx5 hg5 hs5 hx6 hrow hx hbl HT1 hz h77
      by_cases h0 : y = 0
      · subst h0
        rw [if_pos rfl] at T
        have HTT := Lib.hid T.symm
        clear T
        go_wp2_with fail
        refine HT.out.mono ?_
        rintro e w6 ⟨v6, rfl, ho6, hb6⟩
        obtain ⟨A6, c6, ev⟩ := ho6.slice
        subst ev
        rw [HLK.out]
        have HR6 := Lib.hid (HR5.out.below hb6 (fun i hi => (HR5.out.lt i hi).2))
        have HX6 := Lib.hid (HX5.out.below hb6 HX5.out.lt)
        have HB6 := Lib.hid (HB5.out.trans (hb6.mono HB5.out.size))
        clear hb6 ho6 e1 r5 l3 l4 HR5 HX5 HB5
        go_wp2
        go_roundw
        case rel => exact ⟨k + 1, by omega, by go_num, ⟨z + 1, by go_num, HTT⟩, HR6, HX6, HB6⟩
        case measure => simp [intOf]; omega
      · rw [if_neg h0, Nat.add_zero] at T
        have HTT := Lib.hid T.symm
        have hy0 : ((y : Int) == 0) = false := by simp; omega
        clear T
        go_wp2_with fail
        refine HT.out.mono ?_
        rintro e w6 ⟨v6, rfl, ho6, hb6⟩
        obtain ⟨A6, c6, ev⟩ := ho6.slice
        subst ev
        rw [HLK.out]
        have HR6 := Lib.hid (HR5.out.below hb6 (fun i hi => (HR5.out.lt i hi).2))
        have HX6 := Lib.hid (HX5.out.below hb6 HX5.out.lt)
        have HB6 := Lib.hid (HB5.out.trans (hb6.mono HB5.out.size))
        clear hb6 ho6 e1 r5 l3 l4 HR5 HX5 HB5
        go_wp2
        go_roundw
        case rel => exact ⟨k + 1, by omega, by go_num, ⟨z, rfl, HTT⟩, HR6, HX6, HB6⟩
        case measure => simp [intOf]; omega
    · obtain rfl : k = N := by omega
      have hz' := hz.out
      subst hz'
      go_wp2
      go_ret2
      exact ⟨rfl, hbl.out⟩
end Go.Proofs.YtmfilnpbkonfaaaDoor
