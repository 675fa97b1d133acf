/- All arcs of a ring, those of two rings: the program. -/
import Derived.Test.YtamnacgclhaggabArB
import Derived.Test.YtamnacgclhaggabLrn
namespace Go.Proofs.Ytamnacgclhaggab
open Go.ChangeShapes Go.WideShapes Go.ChangeAt Go.RowKit

theorem own_on {w w' : World} {B D : Nat} {v : Value} {l : List Int} (h : Own w B v l) (hb : Below D w w') (hD : w.heap.size ≤ D) : Own w' B v l := by
  refine ⟨h.1, ?_⟩
  rcases h.2 with e | ⟨g, cap, cur, hv, hg, hh, r⟩
  · exact .inl e
  · exact .inr ⟨g, cap, cur, hv, hg, by rw [hb.block g (Nat.lt_of_lt_of_le (Array.getElem?_eq_some_iff.1 hh).1 hD)]; exact hh, r⟩

attribute [local go_sem ↓] ldR_fold apI_fold in
set_option maxRecDepth 10000 in
set_option maxHeartbeats 4000000 in
theorem shared_any (l r : List Int) (w : World) (hl : Ring l) (hr : Ring r) (hlr : l.length = r.length) :
    Calls Try.prog 97 #[agp l, agp r] w fun e w' => ∃ v, e = .returned v ∧ Own w' w.heap.size v (comA l r) ∧ Below w.heap.size w w' := by
  have hl3 := hl.1.1
  have hl7 := hl.1.2.1
  have HK0 := Lib.hid (fun W => linked_any l W (by omega) hl7 fun x hx => (ring_bd hl x hx).1)
  have HK1 := Lib.hid (fun W => linked_any r W (by omega) hr.1.2.1 fun x hx => (ring_bd hr x hx).1)
  have HSZ := Lib.hid (fun W => size_any l W hl7 fun x hx => (ring_bd hl x hx).1)
  have HFU := Lib.hid (fun W => fullSet_any l.length W hl7)
  have HAS := Lib.hid (fun (s : Nat) W => askedA_any s W)
  have HI0 := Lib.hid (fun (s b D : Nat) (g : Nat → Nat) (W : World) (h : Lnk W D g l) (hs : s < 128) (hc : SetC W b s) => isArc_any l s b D g W h (by omega) hl7 (ring_bd hl) hs hc)
  have HI1 := Lib.hid (fun (s b D : Nat) (g : Nat → Nat) (W : World) (h : Lnk W D g r) (hs : s < 128) (hc : SetC W b s) => isArc_any r s b D g W h (by omega) hr.1.2.1 (ring_bd hr) hs hc)
  have HYES := Lib.hid (fun k => arcsTo_yes (q := fun s => isA l s && isA r s) (k := k))
  have HNO := Lib.hid (fun k => arcsTo_no (q := fun s => isA l s && isA r s) (k := k))
  have HLEN := Lib.hid (fun k => arcsTo_len (fun s => isA l s && isA r s) k)
  have HD0 : Hid (∀ s, isA l s = decide (runN (hasN s) l = 1)) := fun s => rfl
  have HD1 : Hid (∀ s, isA r s = decide (runN (hasN s) r = 1)) := fun s => rfl
  have hN127 := pow_len hl7
  unfold comA
  obtain ⟨N, hN⟩ : ∃ N, N = 2 ^ l.length - 1 := ⟨_, rfl⟩
  rw [← hN] at HFU hN127 ⊢
  have H7 := padR_length l hl7
  have H7r := padR_length r hr.1.2.1
  unfold agp at HK0 HK1 HSZ ⊢
  obtain ⟨z, hz⟩ : ∃ z, z = l.length := ⟨_, rfl⟩
  rw [← hz] at HSZ HFU
  have hz7 : z ≤ 7 := by omega
  clear hl hr hlr hl3 hl7 hN hz
  generalize padR l = P0 at *
  generalize padR r = P1 at *
  obtain ⟨p0, p1, p2, p3, p4, p5, p6, rfl⟩ := seven H7
  obtain ⟨q0, q1, q2, q3, q4, q5, q6, rfl⟩ := seven H7r
  simp only [ints, List.map_cons, List.map_nil] at HK0 HK1 HSZ ⊢
  have A0 : Arr (w.alloc (.cells #[.int .i64 p0, .int .i64 p1, .int .i64 p2, .int .i64 p3, .int .i64 p4, .int .i64 p5, .int .i64 p6] 50)) w.heap.size [p0, p1, p2, p3, p4, p5, p6] := heap_alloc_new w _
  have A1 : Arr ((w.alloc (.cells #[.int .i64 p0, .int .i64 p1, .int .i64 p2, .int .i64 p3, .int .i64 p4, .int .i64 p5, .int .i64 p6] 50)).alloc (.cells #[.int .i64 q0, .int .i64 q1, .int .i64 q2, .int .i64 q3, .int .i64 q4, .int .i64 q5, .int .i64 q6] 50)) (w.heap.size + 1) [q0, q1, q2, q3, q4, q5, q6] := by
    have := heap_alloc_new (w.alloc (.cells #[.int .i64 p0, .int .i64 p1, .int .i64 p2, .int .i64 p3, .int .i64 p4, .int .i64 p5, .int .i64 p6] 50)) (.cells #[.int .i64 q0, .int .i64 q1, .int .i64 q2, .int .i64 q3, .int .i64 q4, .int .i64 q5, .int .i64 q6] 50)
    rw [show (w.alloc (.cells #[.int .i64 p0, .int .i64 p1, .int .i64 p2, .int .i64 p3, .int .i64 p4, .int .i64 p5, .int .i64 p6] 50)).heap.size = w.heap.size + 1 by simp] at this
    exact this
  have A0' := A0.alloc (.cells #[.int .i64 q0, .int .i64 q1, .int .i64 q2, .int .i64 q3, .int .i64 q4, .int .i64 q5, .int .i64 q6] 50)
  have BB := ((Below.refl w.heap.size w).alloc (Nat.le_refl _) (.cells #[.int .i64 p0, .int .i64 p1, .int .i64 p2, .int .i64 p3, .int .i64 p4, .int .i64 p5, .int .i64 p6] 50)).alloc (by simp) (.cells #[.int .i64 q0, .int .i64 q1, .int .i64 q2, .int .i64 q3, .int .i64 q4, .int .i64 q5, .int .i64 q6] 50)
  obtain ⟨W0, hW0⟩ : ∃ W, W = (w.alloc (.cells #[.int .i64 p0, .int .i64 p1, .int .i64 p2, .int .i64 p3, .int .i64 p4, .int .i64 p5, .int .i64 p6] 50)).alloc (.cells #[.int .i64 q0, .int .i64 q1, .int .i64 q2, .int .i64 q3, .int .i64 q4, .int .i64 q5, .int .i64 q6] 50) := ⟨_, rfl⟩
  rw [← hW0] at A0' A1 BB
  have hs0 : W0.heap.size = w.heap.size + 2 := by rw [hW0]; simp
  have HA0 := Lib.hid A0'
  have HA1 := Lib.hid A1
  have HBB := Lib.hid BB
  clear A0 A0' A1 BB
  go_enter Try.func97, Try.ntmps97
  go_wp2_with fail
  rw [← hW0]
  clear hW0
  generalize hB : w.heap.size = B at *
  have HB := Lib.hid hB
  clear hB
  have l0 := ldR_run HA0.out.drew rfl
  have l1 := ldR_run HA1.out.drew rfl
  simp only [ints, List.map_cons, List.map_nil] at l0 l1
  go_region_with (first
    | (go_at_call_of 128 (Value.agg #[.int .i64 p0, .int .i64 p1, .int .i64 p2, .int .i64 p3, .int .i64 p4, .int .i64 p5, .int .i64 p6]); refine (HK0.out _).mono ?_; rintro e wa ⟨ga, rfl, hla, hba⟩
       have l2 := ldR_run (HA1.out.drew.below hba (by first | (show _ < W0.heap.size; omega) | (have := hbb.size; simp at this; omega))) rfl
       simp only [ints, List.map_cons, List.map_nil] at l2
       have HLA := Lib.hid hla
       have HBA := Lib.hid hba
       clear hla hba)
    | (go_at_call_of 128 (Value.agg #[.int .i64 q0, .int .i64 q1, .int .i64 q2, .int .i64 q3, .int .i64 q4, .int .i64 q5, .int .i64 q6]); refine (HK1.out _).mono ?_; rintro e wb ⟨gb, rfl, hlb, hbb⟩
       have HLB := Lib.hid hlb
       have HBB2 := Lib.hid hbb
       clear hlb hbb))
  all_goals
    have hsa : W0.heap.size ≤ wa.heap.size := HBA.out.size
    have HBW : Hid (Below B w wa) := HBB.out.drew.trans (HBA.out.mono (by show B ≤ W0.heap.size; omega))
    have HBV : Hid (Below B w wb) := HBW.out.trans (HBB2.out.mono (by omega))
    have HLA2 : Hid (Lnk wb B ga l) := (HLA.out.less (E := B) (by show B ≤ W0.heap.size; omega)).below HBB2.out (Nat.le_refl _)
    have HLB2 : Hid (Lnk wb B gb r) := HLB.out.less (E := B) (by omega)
    have hA0b : Arr wb B [p0, p1, p2, p3, p4, p5, p6] := (HA0.out.drew.below HBA.out HA0.out.lt).below HBB2.out (by have := HA0.out.lt; omega)
    have l5 := ldR_run (hA0b.alloc (.cells #[] 3)) rfl
    simp only [ints, List.map_cons, List.map_nil] at l5
    have ho0 : Hid (Own ((wb.alloc (.cells #[] 3)).alloc (.cells #[.int .i64 p0, .int .i64 p1, .int .i64 p2, .int .i64 p3, .int .i64 p4, .int .i64 p5, .int .i64 p6] 50)) wb.heap.size (.slice (some ⟨wb.heap.size, 0, none⟩) 0 0) []) := World.ownsRow.alloc (own_empty wb _ (Nat.le_refl _)) _
    have hb0 : Hid (Below wb.heap.size wb ((wb.alloc (.cells #[] 3)).alloc (.cells #[.int .i64 p0, .int .i64 p1, .int .i64 p2, .int .i64 p3, .int .i64 p4, .int .i64 p5, .int .i64 p6] 50))) := ((Below.refl _ _).alloc (Nat.le_refl _) _).alloc (by simp) _
    have hsb : B ≤ wb.heap.size := HBV.out.size |> fun h => by have := HB.out; omega
    clear HBA HBB2 HLA HLB HBW hsa hA0b HBB HA0 HA1 HK0 HK1 l0 l1 l2
    go_wp2_with (first
      | (go_at_call 103; refine (HSZ.out _).mono ?_; rintro e w' ⟨rfl, rfl⟩)
      | (go_at_call 129; refine (HFU.out _).mono ?_; rintro e w' ⟨rfl, rfl⟩))
    generalize (wb.alloc (.cells #[] 3)).alloc (.cells #[.int .i64 p0, .int .i64 p1, .int .i64 p2, .int .i64 p3, .int .i64 p4, .int .i64 p5, .int .i64 p6] 50) = W4 at *
    clear l5
    generalize hE : wb.heap.size = E at *
    have HE := Lib.hid hE
    go_loopw [7, 18] (fun v i wr => ∃ k : Nat, k ≤ N ∧ i = .int .i64 k ∧ Hid (Own wr E v (arcsTo (fun s => isA l s && isA r s) k)) ∧ Hid (Below E wb wr)) (fun _ i _ => N - (intOf i).toNat)
    case atStart => exact ⟨0, Nat.zero_le _, rfl, ho0, hb0⟩
    case round =>
      obtain ⟨k, hk, rfl, hown, hbl⟩ := hrel
      clear ho0 hb0
      by_cases hlt : k < N
      · have HAK := Lib.hid (HAS.out k)
        have hEw : E ≤ wr.heap.size := by have := hbl.out.size; omega
        have hsc := SetC.new wr k
        have HB1 := Lib.hid (hbl.out.alloc hEw (.cells #[.int .i64 (k : Int)] 3))
        have HC0 := Lib.hid (HI0.out k wr.heap.size B ga (wr.alloc (.cells #[.int .i64 (k : Int)] 3)) (HLA2.out.below HB1.out (by omega)) (by omega) hsc)
        have HC1 := Lib.hid (fun (V : World) (hV : Below (wr.heap.size + 1) (wr.alloc (.cells #[.int .i64 (k : Int)] 3)) V) => HI1.out k wr.heap.size B gb V (HLB2.out.below (HB1.out.trans (hV.mono (by omega))) (by omega)) (by omega) (hsc.below hV (by omega)))
        have HO1 : Hid (Own (wr.alloc (.cells #[.int .i64 (k : Int)] 3)) E u7 (arcsTo (fun s => isA l s && isA r s) k)) := World.ownsRow.alloc hown.out _
        have hs1 : Hid ((wr.alloc (.cells #[.int .i64 (k : Int)] 3)).heap.size = wr.heap.size + 1) := by rw [Hid]; simp
        have hle := HLEN.out k
        have HY := HYES.out k
        have HN := HNO.out k
        have e0 := HD0.out k
        have e1 := HD1.out k
        rw [← e0] at HC0
        rw [← e1] at HC1
        clear e0 e1 hsc hown hbl HI0 HI1
        cases h0 : isA l k with
        | false =>
          have HE2 := Lib.hid (HN (by rw [h0]; rfl))
          rw [h0] at HC0
          clear HY HN h0
          go_wp2_with (first
            | (go_at_call 130; refine (HAK.out _).mono ?_; rintro e w' ⟨rfl, rfl⟩)
            | (go_at_call 131; refine HC0.out.mono ?_; rintro e w2 ⟨rfl, hb2⟩
               have HO2 := Lib.hid (own_on HO1.out hb2 (Nat.le_refl _))
               have HB2 := Lib.hid (HB1.out.trans (hb2.mono (by have := hs1.out; omega)))
               clear hb2))
          go_roundw
          case rel => exact ⟨k + 1, by omega, by go_num, by rw [← HE2.out]; exact HO2, HB2⟩
          case measure => simp [intOf]; omega
        | true =>
          rw [h0] at HC0
          go_wp2_with (go_at_call 130; refine (HAK.out _).mono ?_; rintro e w' ⟨rfl, rfl⟩)
          refine HC0.out.mono ?_
          rintro e w2 ⟨rfl, hb2⟩
          have HO2 := Lib.hid (own_on HO1.out hb2 (Nat.le_refl _))
          rw [hs1.out] at hb2
          have HB2 := Lib.hid (HB1.out.trans (hb2.mono (by omega)))
          have HC2 := Lib.hid (HC1.out w2 hb2)
          clear hb2 HO1 HC1 HC0 hs1
          cases h1 : isA r k with
          | false =>
            have HE2 := Lib.hid (HN (by rw [h0, h1]; rfl))
            rw [h1] at HC2
            clear HY HN h0 h1
            go_wp2_with fail
            refine HC2.out.mono ?_
            rintro e w3 ⟨rfl, hb3⟩
            have HO3 := Lib.hid (own_on HO2.out hb3 (Nat.le_refl _))
            have HB3 := Lib.hid (HB2.out.trans (hb3.mono (by have := HB2.out.size; omega)))
            clear hb3
            go_wp2
            go_roundw
            case rel => exact ⟨k + 1, by omega, by go_num, by rw [← HE2.out]; exact HO3, HB3⟩
            case measure => simp [intOf]; omega
          | true =>
            have HE2 := Lib.hid (HY (by rw [h0, h1]; rfl))
            rw [h1] at HC2
            clear HY HN h0 h1
            go_wp2_with fail
            refine HC2.out.mono ?_
            rintro e w3 ⟨rfl, hb3⟩
            have HO3 := Lib.hid (own_on HO2.out hb3 (Nat.le_refl _))
            have HB3 := Lib.hid (HB2.out.trans (hb3.mono (by have := HB2.out.size; omega)))
            have hE3 : E ≤ w3.heap.size := by have := HB3.out.size; omega
            obtain ⟨v', w4, hrun, hown', hgrow⟩ := apI_run HO3.out hE3 (by omega) (k : Int)
            rw [HE2.out] at hown'
            have HO4 := Lib.hid hown'
            have HB4 := Lib.hid (apI_below HO3.out hgrow (Nat.le_refl _) HB3.out hE3)
            clear hb3 hown' hgrow HO2 HO3 HC2 HE2
            go_wp2
            go_roundw
            case rel => exact ⟨k + 1, by omega, by go_num, HO4, HB4⟩
            case measure => simp [intOf]; omega
      · obtain rfl : k = N := by omega
        go_wp2
        go_ret
        refine ⟨_, rfl, ?_, ?_⟩
        · exact own_less hown.out (by have := HB.out; omega)
        · rw [HB.out]; exact HBV.out.trans (hbl.out.mono (by omega))

end Go.Proofs.Ytamnacgclhaggab
