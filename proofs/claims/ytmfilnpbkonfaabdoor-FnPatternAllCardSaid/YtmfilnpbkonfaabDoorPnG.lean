/- How often a ring has each pattern of four points: the model, the program. -/
import Derived.Test.YtmfilnpbkonfaabDoorPnF
import Derived.Maps.AppendAt
namespace Go.Proofs.YtmfilnpbkonfaabDoor
open Go.ChangeShapes Go.WideShapes Go.ChangeAt Go.RowKit

theorem apI_run2 {V : World} {B : Nat} {v : Value} {C : List Int} (h : Own V B v C) (hB : B ≤ V.heap.size) (hl : C.length ≤ 3000) (x : Int) :
    ∃ v' w', (∀ ty, (apI #[23, 23] ty #[v, .slice (some ⟨V.heap.size, 0, none⟩) 1 1]).run Tryd.prog (V.alloc (.cells #[.int .i64 x] 3)) = .ok v' w') ∧ Own w' B v' (C ++ [x]) ∧ (V.alloc (.cells #[.int .i64 x] 3)).grownBy w' v.ownBlock ∧ (v'.ownBlock = v.ownBlock ∨ v'.ownBlock = some (V.heap.size + 1)) := by
  obtain ⟨i0, hi, hz0, hz1, hz2⟩ := info_parts int_info
  obtain ⟨v', w', hrun, hown, hgr, _, hob⟩ := run_append_own_at (P := Tryd.prog) (w := V.alloc (.cells #[.int .i64 x] 3)) B 23 23 3 i0 (.int .i64 0) 1 8 Tryd.underlying23 hi hz0 hz1 hz2 rfl (by decide) v C.length (ints C) (World.ownsRow.alloc h _) ⟨V.heap.size, 0, none⟩ 1 1 [.int .i64 x] rfl (one_cell V _ _) (by simp [Value.oneCell']) (by unfold maxLen; omega) (by omega) (by simp; omega)
  refine ⟨v', w', fun _ => hrun, by unfold Own; simpa [ints] using hown, hgr, ?_⟩
  simpa using hob

/-- How often a ring has each of the first k rings of four points. -/
def aplK (l : List Int) (k : Nat) : List Int := (List.range k).map fun j : Nat => (mnyN l (byL 4 (j : Int)) : Int)
theorem aplK_step (l : List Int) (k : Nat) : aplK l (k + 1) = aplK l k ++ [(mnyN l (byL 4 (k : Int)) : Int)] := by
  unfold aplK
  rw [List.range_succ, List.map_append]; rfl
theorem aplK_len (l : List Int) (k : Nat) : (aplK l k).length = k := by simp [aplK]
def Apl (l : List Int) : Prop := Ring l ∧ 4 ≤ l.length
instance (l : List Int) : Decidable (Apl l) := by unfold Apl; infer_instance
def aplB (l : List Int) : Bool := decide (Apl l)
def aplR (l : List Int) : List Int := if Apl l then aplK l 6 else []
theorem aplR_length (l : List Int) : (aplR l).length ≤ 7 := by
  unfold aplR
  split
  · rw [aplK_len]; omega
  · simp
theorem aplB_yes {l : List Int} (h : Apl l) : aplB l = true := by simpa [aplB] using h
theorem aplB_no {l : List Int} (h : ¬ Apl l) : aplB l = false := by simpa [aplB] using h
theorem fac4 : facM 4 = 6 := by decide

attribute [local go_sem ↓] apI_fold in
set_option maxRecDepth 10000 in
set_option maxHeartbeats 2000000 in
theorem aplS_any (A : Option Addr) (n c H : Nat) (l : List Int) (w : World) (h : Rd w H A n l) (hH : H ≤ w.heap.size) (hn : n ≤ 1048576) :
    Calls Tryd.prog 21 #[.slice A n c] w fun e w' => ∃ v, e = .returned (.tuple #[v, .bool (aplB l)]) ∧ Own w' w.heap.size v (aplR l) ∧ Below w.heap.size w w' := by
  have HL := Lib.hid h.len
  have hr0 : Rd (w.alloc (.cells #[] 3)) H A n l := h.alloc hH _
  have HRI := Lib.hid (ringS_any A n c H l _ hr0 hn)
  have ho0 := Lib.hid (own_empty w _ (Nat.le_refl _))
  have HB0 := Lib.hid ((Below.refl w.heap.size w).alloc (Nat.le_refl _) (.cells #[] 3))
  by_cases hr : Ring l
  rotate_left
  · have E : ¬ Apl l := fun hf => hr hf.1
    rw [aplR, if_neg E, aplB_no E]
    rw [ring_no hr] at HRI
    clear E h hr hr0
    go_enter Tryd.func21, Tryd.ntmps21
    go_wp2_with (go_at_call 45; refine HRI.out.mono ?_; rintro e w' ⟨rfl, rfl⟩)
    go_ret2
    exact ⟨_, rfl, ho0.out, HB0.out⟩
  rw [ring_yes hr] at HRI
  by_cases h4 : 4 ≤ n
  rotate_left
  · have E : ¬ Apl l := fun hf => h4 (by have := hf.2; have := HL.out; omega)
    rw [aplR, if_neg E, aplB_no E]
    have hc : (n : Int) < 4 := by omega
    clear E h hr hr0 h4
    go_enter Tryd.func21, Tryd.ntmps21
    go_wp2_with (go_at_call 45; refine HRI.out.mono ?_; rintro e w' ⟨rfl, rfl⟩)
    go_ret2
    exact ⟨_, rfl, ho0.out, HB0.out⟩
  have E : Apl l := ⟨hr, by rw [HL.out]; exact h4⟩
  have hc : ¬ (n : Int) < 4 := by omega
  rw [aplR, if_pos E, aplB_yes E]
  have HBY := Lib.hid (fun (k : Nat) (hk : k < 6) W => byS_any 4 (k : Int) W (by omega) (by omega) (by omega) (by rw [show facN (4 - 1) = 6 from by decide]; omega))
  have HMY := Lib.hid (fun (k : Nat) (hk : k < 6) (A' : Option Addr) (n' c' : Nat) (W : World) (hb : Below w.heap.size w W) (hR : Rd W W.heap.size A' n' (byL 4 (k : Int))) => manyS_any A n c A' n' c' W.heap.size l (byL 4 (k : Int)) W ((h.below (hb.mono hH)).more (Nat.le_trans hH hb.size)) hR (Nat.le_refl _) hr.1 (byL_tell8 4 k (by omega) (by omega) (by rw [fac4]; exact hk)))
  have HST := Lib.hid (aplK_step l)
  have HLE := Lib.hid (aplK_len l)
  have H0 : Hid (aplK l 0 = []) := rfl
  clear E h hr hr0 h4
  go_enter Tryd.func21, Tryd.ntmps21
  go_wp2_with (go_at_call 45; refine HRI.out.mono ?_; rintro e w' ⟨rfl, rfl⟩)
  go_loopw [4, 5] (fun v i wr => ∃ k : Nat, k ≤ 6 ∧ i = .int .i64 k ∧ Hid (Own wr w.heap.size v (aplK l k)) ∧ Hid (Below w.heap.size w wr)) (fun _ i _ => 6 - (intOf i).toNat)
  case atStart => exact ⟨0, Nat.zero_le _, rfl, by rw [H0.out]; exact ho0, HB0⟩
  case round =>
    obtain ⟨k, hk, rfl, hown, hbl⟩ := hrel
    clear ho0 HB0
    by_cases hlt : k < 6
    · have HBK := Lib.hid (HBY.out k hlt)
      have HMK := Lib.hid (HMY.out k hlt)
      have HSK := Lib.hid (HST.out k)
      have HLK := Lib.hid (HLE.out k)
      generalize mnyN l (byL 4 (k : Int)) = y at *
      go_wp2_with fail
      refine (HBK.out _).mono ?_
      rintro e w2 ⟨v2, rfl, ho2, hb2⟩
      obtain ⟨A2, c2, rfl⟩ := ho2.slice
      have HB2 := Lib.hid (hbl.out.trans (hb2.mono hbl.out.size))
      have HM2 := Lib.hid (HMK.out A2 _ c2 w2 HB2.out ho2.rd.2)
      have HO2 := Lib.hid (hown.out.keep8 hb2)
      clear ho2 hb2 HMK hbl hown
      generalize (byL 4 (k : Int)).length = n2 at *
      go_wp2_with fail
      refine HM2.out.mono ?_
      rintro e w3 ⟨rfl, hb3⟩
      have HB3 := Lib.hid (HB2.out.trans (hb3.mono HB2.out.size))
      have HO3 := Lib.hid (HO2.out.keep8 hb3)
      obtain ⟨v', w4, hrun, hown', hgrow⟩ := apI_run HO3.out HB3.out.size (by rw [HLK.out]; omega) (y : Int)
      rw [← HSK.out] at hown'
      have HO4 := Lib.hid hown'
      have HB4 := Lib.hid (apI_below HO3.out hgrow (Nat.le_refl _) HB3.out HB3.out.size)
      clear hb3 hown' hgrow HO3 HB3 HO2 HB2 HM2
      go_wp2
      go_roundw
      case rel => exact ⟨k + 1, by omega, by go_num, HO4, HB4⟩
      case measure => simp [intOf]; omega
    · obtain rfl : k = 6 := by omega
      obtain ⟨A6, c6, ev⟩ := hown.out.slice
      subst ev
      go_wp2
      go_ret2
      exact ⟨_, rfl, hown.out, hbl.out⟩

attribute [local go_sem ↓] ldR_fold stR_fold apI_fold in
set_option maxRecDepth 10000 in
set_option maxHeartbeats 2000000 in
theorem aplI_any (A : Option Addr) (n c H : Nat) (l : List Int) (w : World) (h : Rd w H A n l) (hH : H ≤ w.heap.size) (hn : n ≤ 1048576) (hnc : n ≤ c) (hcm : c ≤ 9223372036854775807) (hT : Tab w) :
    Calls Tryd.prog 20 #[.slice A n c] w fun e w' => ∃ v, e = .returned (.tuple #[v, .bool (aplB l)]) ∧ OwnG w' w.heap.size v (aplR l) ∧ Below w.heap.size w w' := by
  have HRR := Lib.hid (readR_any A n c H l w h hH hn hnc hcm)
  have H7 := ringP_length l
  have HL := Lib.hid h.len
  have HTB := Lib.hid (fun (W : World) (hb : Below w.heap.size w W) => hT.on hb)
  clear h hT
  by_cases hr : Ring l
  rotate_left
  · have E : ¬ Apl l := fun hf => hr hf.1
    rw [aplR, if_neg E, aplB_no E]
    rw [ring_no hr] at HRR
    clear E hr
    generalize ringP l = P at *
    go_enter Tryd.func20, Tryd.ntmps20
    go_wp2_with fail
    refine HRR.out.mono ?_
    rintro e w1 ⟨rfl, hb1⟩
    obtain ⟨W2, r2, hx2, hg2, hs2⟩ := stR_run (Q := P) (new_ring w1) rfl H7
    have HB2 : Hid (Below w.heap.size w W2) := (hb1.alloc hb1.size _).grown hg2 (by have := hb1.size; simp; omega) (by have := hb1.size; simp; omega)
    clear hb1 hx2 hg2 hs2
    go_wp2
    go_ret2
    exact ⟨.slice none 0 0, rfl, .inl ⟨rfl, rfl⟩, HB2.out⟩
  rw [ring_yes hr] at HRR
  by_cases h4 : 4 ≤ n
  rotate_left
  · have E : ¬ Apl l := fun hf => h4 (by have := hf.2; have := HL.out; omega)
    rw [aplR, if_neg E, aplB_no E]
    have hc : (n : Int) < 4 := by omega
    clear E hr h4
    generalize ringP l = P at *
    go_enter Tryd.func20, Tryd.ntmps20
    go_wp2_with fail
    refine HRR.out.mono ?_
    rintro e w1 ⟨rfl, hb1⟩
    obtain ⟨W2, r2, hx2, hg2, hs2⟩ := stR_run (Q := P) (new_ring w1) rfl H7
    have HB2 : Hid (Below w.heap.size w W2) := (hb1.alloc hb1.size _).grown hg2 (by have := hb1.size; simp; omega) (by have := hb1.size; simp; omega)
    clear hb1 hx2 hg2 hs2
    go_wp2
    go_ret2
    exact ⟨.slice none 0 0, rfl, .inl ⟨rfl, rfl⟩, HB2.out⟩
  have E : Apl l := ⟨hr, by rw [HL.out]; exact h4⟩
  have hc : ¬ (n : Int) < 4 := by omega
  rw [aplR, if_pos E, aplB_yes E]
  have HALL := Lib.hid (fun W => allRings7_any 4 W (by omega) (by omega))
  have HML : Hid ((padM (ringsL 4)).length = 6) := by simp [padM, ringsL_length, Hid, fac4]
  have HROW : Hid (∀ k, k < 6 → rowK (padM (ringsL 4)) k = padR (byL 4 (k : Int))) := fun k hk => by
    simp [padM, ringsL, rowK, List.getD, show k < facM 4 by rw [fac4]; exact hk]
  have HP7 := Lib.hid (fun (k : Nat) => padR_length (byL 4 (k : Int)) (by rw [byL_length]; omega))
  have HSW := Lib.hid (fun (k : Nat) (hk : k < 6) (W : World) (hW : Tab W) => setsW_any l (byL 4 (k : Int)) W hr.1 (byL_tell8 4 k (by omega) (by omega) (by rw [fac4]; exact hk)) hW)
  have HSL := Lib.hid (fun k : Nat => sw_mny l (byL 4 (k : Int)))
  have HST := Lib.hid (aplK_step l)
  have HLE := Lib.hid (aplK_len l)
  have H0 : Hid (aplK l 0 = []) := rfl
  have e1 : ringP l = padR l := by rw [ringP, if_pos hr]
  rw [e1] at HRR H7
  unfold agp at HSW
  clear hr E e1 h4
  generalize padR l = P at *
  obtain ⟨q0, q1, q2, q3, q4, q5, q6, rfl⟩ := seven H7
  simp only [ints, List.map_cons, List.map_nil] at HRR
  go_enter Tryd.func20, Tryd.ntmps20
  go_wp2_with fail
  refine HRR.out.mono ?_
  rintro e w1 ⟨rfl, hb1⟩
  obtain ⟨W2, r2, hx2, hg2, hs2⟩ := stR_run (Q := [q0, q1, q2, q3, q4, q5, q6]) (new_ring w1) rfl rfl
  have HB2 : Hid (Below w.heap.size w W2) := (hb1.alloc hb1.size _).grown hg2 (by have := hb1.size; simp; omega) (by have := hb1.size; simp; omega)
  have HX2 := Lib.hid hx2
  have hs1 := hb1.size
  have hsw2 : W2.heap.size = w1.heap.size + 1 := by rw [hs2]; simp
  simp only [ints, List.map_cons, List.map_nil] at r2
  clear hb1 hx2 hg2 hs2
  generalize hG : w1.heap.size = G at *
  have ho0 : Own (W2.alloc (.cells #[] 3)) (G + 1) (.slice (some ⟨W2.heap.size, 0, none⟩) 0 0) [] := own_empty W2 _ (by omega)
  have HO3 := Lib.hid ho0
  have HX3 := Lib.hid (HX2.out.alloc (.cells #[] 3))
  have HB3 := Lib.hid (HB2.out.alloc HB2.out.size (.cells #[] 3))
  have hsw3 : (W2.alloc (.cells #[] 3)).heap.size = G + 2 := by simp; omega
  have hsz2 : W2.heap.size = G + 1 := hsw2
  clear HB2 HX2 ho0
  go_wp2_with fail
  rw [hsz2] at HO3
  generalize W2.alloc (.cells #[] 3) = W3 at *
  clear r2
  refine (HALL.out W3).mono ?_
  rintro e w4 ⟨v4, rfl, hrow, hb4⟩
  obtain ⟨gr, cr, rfl, hgr, hgs, hNc, hcm⟩ : ∃ gr cr, v4 = .slice (some ⟨gr, 0, none⟩) 6 cr ∧ W3.heap.size ≤ gr ∧ gr < w4.heap.size ∧ 6 ≤ cr ∧ cr ≤ maxLen := by
    obtain ⟨g, c, e, h1, h2, h3, h4, _⟩ := hrow.elem (k := 0) (by rw [HML.out]; omega)
    rw [HML.out] at e h3
    exact ⟨g, c, e, h1, h2, h3, h4⟩
  have HX4 := Lib.hid (HX3.out.below hb4 HX3.out.lt)
  have HB4 := Lib.hid (HB3.out.trans (hb4.mono HB3.out.size))
  have HO4 := Lib.hid (HO3.out.keep8 hb4)
  have HW4 := Lib.hid (hrow.less (B' := G + 2) (by omega))
  have HE : ∃ E, E = w4.heap.size := ⟨_, rfl⟩
  obtain ⟨E, hE⟩ := HE
  rw [← hE] at hgs
  have HEq := Lib.hid hE
  clear hrow hb4 HX3 HB3 HO3 hE
  generalize padM (ringsL 4) = M at *
  go_wp2
  go_loopw [6, 24] (fun v i wr => ∃ k : Nat, k ≤ 6 ∧ i = .int .i64 k ∧ Hid (Own wr (G + 1) v (aplK l k)) ∧ Hid (∀ b, v.ownBlock = some b → b < G + 2 ∨ E ≤ b) ∧ Hid (RowN wr (G + 2) 48 7 (.slice (some ⟨gr, 0, none⟩) 6 cr) M) ∧ Hid (Arr wr G [q0, q1, q2, q3, q4, q5, q6]) ∧ E ≤ wr.heap.size ∧ Hid (Below w.heap.size w wr)) (fun _ i _ => 6 - (intOf i).toNat)
  case atStart => exact ⟨0, Nat.zero_le _, rfl, by rw [H0.out]; exact HO4, fun b hb => (by simp [Value.ownBlock] at hb; omega), HW4, HX4, by rw [HEq.out]; exact Nat.le_refl _, HB4⟩
  case round =>
    obtain ⟨k, hk, rfl, hown, hblk, hrow, hx, hEw, hbl⟩ := hrel
    clear HW4 HX4 HB4 HO4
    by_cases hlt : k < 6
    · have e1 := ldE8 hrow.out (k := k) (by rw [HML.out]; exact hlt)
      rw [HROW.out k hlt] at e1
      have HT1 := HSW.out k hlt
      have h77 := HP7.out k
      have HSK := Lib.hid (HST.out k)
      have HLK := Lib.hid (HSL.out k)
      have HKL := Lib.hid (HLE.out k)
      generalize padR (byL 4 (k : Int)) = P at *
      obtain ⟨p0, p1, p2, p3, p4, p5, p6, rfl⟩ := seven h77
      obtain ⟨W5, r5, hx5, hg5, hs5⟩ := stR_run (Q := [p0, p1, p2, p3, p4, p5, p6]) (new_ring wr) rfl rfl
      have hb5 : Below wr.heap.size wr W5 := ((Below.refl _ wr).alloc (Nat.le_refl _) _).grown hg5 (by simp) (by simp)
      have hx6 := hx.out.below hb5 hx.out.lt
      have l3 := ldR_run hx5 rfl
      have l4 := ldR_run hx6 rfl
      have HO5 := Lib.hid (hown.out.keep8 hb5)
      have HR5 := Lib.hid (hrow.out.below hb5 (fun i hi => (hrow.out.lt i hi).2))
      have HX5 := Lib.hid hx6
      have HB5 := Lib.hid (hbl.out.trans (hb5.mono hbl.out.size))
      have HT := Lib.hid (HT1 W5 (HTB.out W5 HB5.out))
      have hE5 : E ≤ W5.heap.size := Nat.le_trans hEw hb5.size
      simp only [ints, List.map_cons, List.map_nil] at HT r5 l3 l4 e1
      generalize mnyN l (byL 4 (k : Int)) = y at *
      generalize swL l (byL 4 (k : Int)) = L at *
      clear hb5 hx5 hg5 hs5 hx6 hown hrow hx hbl HT1 h77 hEw
      go_wp2_with fail
      refine HT.out.mono ?_
      rintro e w6 ⟨v6, rfl, ho6, hb6⟩
      obtain ⟨A6, c6, ev⟩ := ho6.slice
      subst ev
      rw [HLK.out]
      have HO6 := HO5.out.keep8 hb6
      have HR6 := HR5.out.below hb6 (fun i hi => (HR5.out.lt i hi).2)
      have HX6 := HX5.out.below hb6 HX5.out.lt
      have HB6 := HB5.out.trans (hb6.mono HB5.out.size)
      have hE6 : E ≤ w6.heap.size := Nat.le_trans hE5 hb6.size
      have hG6 : G + 1 ≤ w6.heap.size := HX6.lt
      obtain ⟨v', w7, hrun, hown', hgrow, hob⟩ := apI_run2 HO6 hG6 (by rw [HKL.out]; omega) (y : Int)
      rw [← HSK.out] at hown'
      have hgl := hgrow.size
      have HO7 := Lib.hid hown'
      have HK7 : Hid (∀ b, v'.ownBlock = some b → b < G + 2 ∨ E ≤ b) := fun b hb => by
        rcases hob with e | e
        · exact hblk.out b (by rw [← e]; exact hb)
        · rw [e] at hb
          have : w6.heap.size + 1 = b := Option.some.inj hb
          omega
      have HX7 : Hid (Arr w7 G [q0, q1, q2, q3, q4, q5, q6]) := (hgrow.block G (by have := HX6.lt; simp; omega) (fun e => by have := (HO6.lt G e.symm).1; omega)).trans (HX6.alloc _)
      have HR7 : Hid (RowN w7 (G + 2) 48 7 (.slice (some ⟨gr, 0, none⟩) 6 cr) M) := by
        refine HR6.same fun i hi => ?_
        have hi' : gr = i := by simpa [Value.ownBlock] using hi
        subst hi'
        refine (hgrow.block gr (by have := (HR6.lt gr rfl).2; simp; omega) ?_).trans (Below.heap_alloc w6 _ gr (HR6.lt gr rfl).2)
        intro e
        rcases hblk.out gr e.symm with h | h
        · omega
        · omega
      have HB7 := Lib.hid (apI_below HO6 hgrow (D := w.heap.size) (by omega) HB6 HB6.size)
      have hE7 : E ≤ w7.heap.size := by simp at hgl; omega
      clear hb6 ho6 e1 r5 l3 l4 HO5 HR5 HX5 HB5 HO6 HR6 HX6 HB6 hown' hgrow hob hblk
      go_wp2
      go_roundw
      case rel => exact ⟨k + 1, by omega, by go_num, HO7, HK7, HR7, HX7, hE7, HB7⟩
      case measure => simp [intOf]; omega
    · obtain rfl : k = 6 := by omega
      obtain ⟨A6, c6, ev⟩ := hown.out.slice
      subst ev
      go_wp2
      go_ret2
      exact ⟨_, rfl, (own_less hown.out (by omega)).gen, hbl.out⟩
end Go.Proofs.YtmfilnpbkonfaabDoor
