/- At how many sets of three points two rings differ: the program's loop. -/
import Derived.Test.YtamnacgclhaggabSwD
import Derived.Test.YtamnacgclhaggabSwA
import Derived.Test.YtamnacgclhaggabFold
import Derived.Deep.RegionHeld3
namespace Go.Proofs.Ytamnacgclhaggab
open Go.ChangeShapes Go.WideShapes Go.ChangeAt Go.RowKit

/-- A whole three, loaded and stored by another name. -/
def ld3 (p : Addr) : Sem Value := loadVar 112 p
theorem ld3_fold (p : Addr) : loadVar 112 p = ld3 p := rfl
theorem ld3_run {w : World} {g : Nat} {P : List Int} (h : Blk 112 w g P) (hP : P.length = 3) : (ld3 ⟨g, 0, none⟩).run Try.prog w = .ok (.agg (ints P).toArray) w :=
  run_loadVar_row (P := Try.prog) w g 112 112 _ (0, 0) _ h Try.underlying112 rfl (by rw [three_size]; simp [hP])

theorem two_boxes (w : World) (P Q : List Int) (W : World) (hW : W = (w.alloc (.cells (ints P).toArray 50)).alloc (.cells (ints Q).toArray 50)) :
    Arr W w.heap.size P ∧ Arr W (w.heap.size + 1) Q ∧ Below w.heap.size w W ∧ W.heap.size = w.heap.size + 2 := by
  subst hW
  have k1 : Arr (w.alloc (.cells (ints P).toArray 50)) w.heap.size P := heap_alloc_new w _
  have k2 := heap_alloc_new (w.alloc (.cells (ints P).toArray 50)) (.cells (ints Q).toArray 50)
  rw [show (w.alloc (.cells (ints P).toArray 50)).heap.size = w.heap.size + 1 by simp] at k2
  exact ⟨k1.alloc _, k2, ((Below.refl _ w).alloc (Nat.le_refl _) _).alloc (by simp) _, by simp⟩

attribute [local go_sem ↓] ldR_fold ld3_fold in
set_option maxRecDepth 10000 in
set_option maxHeartbeats 1000000 in
theorem differs_any (a b : List Int) (w : World) (ha : Tell a) (hb : Tell b) (hl : a.length = b.length) :
    Calls Try.prog 83 #[agp a, agp b] w fun e w' => e = .returned (.int .i64 (difX a b a.length)) ∧ Below w.heap.size w w' := by
  have h3 := ha.1
  have h7 := ha.2.1
  have HSZ := fun V => Lib.hid (size_any a V h7 ha.pos)
  have HAP := Lib.hid (fun V => allPairs_any a.length V h7)
  have HM0 : ∀ k : Nat, k < a.length → (k : Int) ∈ a := fun k hk => ha.has (by omega) (by omega)
  have HM1 : ∀ k : Nat, k < a.length → (k : Int) ∈ b := fun k hk => hb.has (by omega) (by omega)
  have HH0 := Lib.hid (fun (x y z : Nat) (hx : x < a.length) (hy : y < a.length) (hz : z < a.length) V => hasThree_any a x y z V (by omega) h7 ha.pos (HM0 x hx) (HM0 y hy) (HM0 z hz))
  have HH1 := Lib.hid (fun (x y z : Nat) (hx : x < a.length) (hy : y < a.length) (hz : z < a.length) V => hasThree_any b x y z V (by omega) (by omega) hb.pos (HM1 x hx) (HM1 y hy) (HM1 z hz))
  have HZB : Hid (∀ x y z, z ≤ a.length → 0 ≤ difZ a b x y z ∧ difZ a b x y z ≤ 7) := fun x y z hx => difZ_bd a b x y z (by omega)
  have HZS : Hid (∀ x y z, y < z → difZ a b x y (z + 1) = difZ a b x y z + if has3 a [(x : Int), (y : Int), (z : Int)] = has3 b [(x : Int), (y : Int), (z : Int)] then 0 else 1) := fun x y z hh => difZ_step _ _ _ _ _ hh
  have HSM : Hid (∀ k, k < (pairsL a.length).length → ∃ x y : Nat, rowK (pairsL a.length) k = [(x : Int), (y : Int)] ∧ x < y ∧ y < a.length ∧ sumR (difP a b) ((pairsL a.length).take (k + 1)) = sumR (difP a b) ((pairsL a.length).take k) + difZ a b x y a.length) := fun k hk => by
    obtain ⟨x, y, e, h1, h2⟩ := pairsL_mem (rowK_mem hk)
    refine ⟨x, y, e, h1, h2, ?_⟩
    rw [sumR_take _ _ _ hk, e]
    simp [difP, p2, List.getD]
  have HPB : Hid (∀ k, k ≤ (pairsL a.length).length → 0 ≤ sumR (difP a b) ((pairsL a.length).take k) ∧ sumR (difP a b) ((pairsL a.length).take k) ≤ 343) := by
    have hp : (pairsL a.length).length ≤ 49 := pw_len a.length a.length h7 h7
    have : ∀ L : List (List Int), 0 ≤ sumR (difP a b) L ∧ sumR (difP a b) L ≤ 7 * L.length := fun L => by
      induction L with
      | nil => simp [sumR]
      | cons l L ih =>
        have h1 := difZ_bd a b (l.getD 0 0).toNat (l.getD 1 0).toNat a.length h7
        have e : sumR (difP a b) (l :: L) = difP a b l + sumR (difP a b) L := rfl
        unfold difP at e ih ⊢
        simp only [List.length_cons]
        omega
    intro k hk
    have h1 := this ((pairsL a.length).take k)
    rw [List.length_take] at h1
    have h2 : min k (pairsL a.length).length ≤ 49 := by omega
    omega
  have HTOT := Lib.hid (sum_pairs a b)
  have HPL : Hid ((pairsL a.length).length ≤ 49) := pw_len a.length a.length h7 h7
  have HNE : Hid (0 < (pairsL a.length).length) := by
    have : a.length = 3 ∨ a.length = 4 ∨ a.length = 5 ∨ a.length = 6 ∨ a.length = 7 := by omega
    show 0 < (pairsL a.length).length
    rcases this with e | e | e | e | e <;> rw [e] <;> decide
  have h70 := padR_length a h7
  have h71 := padR_length b (by omega)
  rw [← HTOT.out]
  unfold agp at HSZ HH0 HH1 ⊢
  clear HM0 HM1 ha hb hl HTOT
  generalize padR a = P at *
  generalize padR b = Q at *
  generalize a.length = n at *
  obtain ⟨p0, p1, p2', p3, p4, p5, p6, rfl⟩ := seven h70
  obtain ⟨q0, q1, q2, q3, q4, q5, q6, rfl⟩ := seven h71
  obtain ⟨M, hM⟩ : ∃ M, M = pairsL n := ⟨_, rfl⟩
  obtain ⟨f, hf⟩ : ∃ f : Nat → Int, f = fun k => sumR (difP a b) (M.take k) := ⟨_, rfl⟩
  have hfe : sumR (difP a b) M = f M.length := by rw [hf]; simp
  rw [← hM] at HSM HPB HPL HNE ⊢
  have HSM : Hid (∀ k, k < M.length → ∃ x y : Nat, rowK M k = [(x : Int), (y : Int)] ∧ x < y ∧ y < n ∧ f (k + 1) = f k + difZ a b x y n) := by rw [hf]; exact HSM
  have HPB : Hid (∀ k, k ≤ M.length → 0 ≤ f k ∧ f k ≤ 343) := by rw [hf]; exact HPB
  have hf0 : f 0 = 0 := by rw [hf]; simp [sumR]
  rw [hfe]
  rw [← hM] at HAP
  have HF0 := Lib.hid hf0
  clear hM hf hfe hf0
  obtain ⟨W, hW⟩ : ∃ W, W = (w.alloc (.cells (ints [p0, p1, p2', p3, p4, p5, p6]).toArray 50)).alloc (.cells (ints [q0, q1, q2, q3, q4, q5, q6]).toArray 50) := ⟨_, rfl⟩
  obtain ⟨x1, x2, x3, x4⟩ := two_boxes w _ _ W hW
  have l0 := ldR_run x1 rfl
  have HX1 := Lib.hid x1
  have HX2 := Lib.hid x2
  have HX3 := Lib.hid x3
  have HX4 := Lib.hid x4
  simp only [ints, List.map_cons, List.map_nil] at HSZ HH0 HH1 l0 hW ⊢
  have HSS := Lib.hid HSZ
  clear HSZ x1 x2 x3 x4
  rw [hW] at l0
  go_enter Try.func83, Try.ntmps83
  go_wp2_with fail
  rw [← hW]
  clear l0 hW
  refine (HSS.out W).out.mono ?_
  rintro e W1 ⟨rfl, hw1⟩
  have hb1 : Below W.heap.size W W1 := by rw [hw1]; exact (Below.refl _ W).alloc (Nat.le_refl _) _
  clear hw1
  have HX1b := Lib.hid (HX1.out.below hb1 HX1.out.lt)
  have HX2b := Lib.hid (HX2.out.below hb1 HX2.out.lt)
  have HX3b := Lib.hid (HX3.out.trans (hb1.mono HX3.out.size))
  have hs1 : w.heap.size + 2 ≤ W1.heap.size := by have := hb1.size; have := HX4.out; omega
  clear hb1 HX1 HX2 HX3 HX4
  go_wp2_with fail
  refine (HAP.out W1).mono ?_
  rintro e W2 ⟨v, rfl, hrow, hb2⟩
  obtain ⟨g, c, rfl, hg, hg2, _⟩ := hrow.elem (k := 0) HNE.out
  have HX1 := Lib.hid (HX1b.out.below hb2 HX1b.out.lt)
  have HX2 := Lib.hid (HX2b.out.below hb2 HX2b.out.lt)
  have HX3 := Lib.hid (HX3b.out.trans (hb2.mono HX3b.out.size))
  have HRW := Lib.hid hrow
  have hs2 := hb2.size
  clear hb2 hrow HX1b HX2b HX3b
  obtain ⟨B, hB⟩ : ∃ B, B = w.heap.size := ⟨_, rfl⟩
  have HBB := Lib.hid hB
  rw [← hB] at HX1 HX2 HX3 hs1 ⊢
  clear hB
  go_wp2
  go_loopw [5, 14] (fun ct i wr => ∃ k : Nat, k ≤ M.length ∧ i = .int .i64 k ∧ ct = .int .i64 (f k) ∧ Hid (Arr wr B [p0, p1, p2', p3, p4, p5, p6]) ∧ Hid (Arr wr (B + 1) [q0, q1, q2, q3, q4, q5, q6]) ∧ Hid (RowN wr W1.heap.size 57 2 (.slice (some ⟨g, 0, none⟩) M.length c) M) ∧ Hid (Below B w wr)) (fun _ i _ => M.length - (intOf i).toNat)
  case atStart => exact ⟨0, by omega, rfl, by rw [HF0.out], HX1, HX2, HRW, HX3⟩
  case round =>
    obtain ⟨k, hk, rfl, rfl, hx1, hx2, hrw, hbl⟩ := hrel
    have hpl := HPL.out
    clear HX1 HX2 HX3 HRW
    by_cases hlt : k < M.length
    · obtain ⟨x, y, hr, hxy, hyn, hstep⟩ := HSM.out k hlt
      have b0 := HPB.out k (by omega)
      have b00 := HPB.out (k + 1) (by omega)
      have HE := Lib.hid hr
      have HN := Lib.hid (heap_alloc_new wr (.cells #[.int .i64 0, .int .i64 0] 57))
      have HNB : Hid (Blk 57 (wr.alloc (.cells #[.int .i64 0, .int .i64 0] 57)) wr.heap.size [0, 0]) := HN.out
      have HRA := Lib.hid (hrw.out.alloc (.cells #[.int .i64 0, .int .i64 0] 57))
      have hbn := (Below.refl wr.heap.size wr).alloc (Nat.le_refl _) (.cells #[.int .i64 0, .int .i64 0] 57)
      have HX1 := Lib.hid (hx1.out.below hbn hx1.out.lt)
      have HX2 := Lib.hid (hx2.out.below hbn hx2.out.lt)
      have hlx := hx2.out.lt
      have HX3 := Lib.hid (hbl.out.trans (hbn.mono (by omega)))
      have hgl := (hrw.out.lt g rfl).2
      have HRW := Lib.hid hrw.out
      clear hbn hx1 hx2 hrw hbl HN hr
      go_wp2_with (first
        | (refine load_elem rfl _ 57 rfl _ rfl Try.underlying57 g M.length c W1.heap.size k 2 M HRW hlt readPair_size rfl ?_; rw [HE.out])
        | (refine store_blk rfl 57 2 readPair_size _ _ rfl wr.heap.size [0, 0] [(x : Int), (y : Int)] rfl rfl rfl rfl HNB ?_; intro w4 HT4 hg4 hs4; have hty := HT4.out.cell (i := 1) (by simp); simp only [List.getD_cons_zero, List.getD_cons_succ] at hty))
      have hs4' : w4.heap.size = wr.heap.size + 1 := by rw [hs4]; simp
      have HX1' := Lib.hid (HX1.out.grown hg4 (by omega))
      have HX2' := Lib.hid (HX2.out.grown hg4 (by omega))
      have HX3' := Lib.hid (HX3.out.grown hg4 (by omega) (by intro i hi; have e : wr.heap.size = i := Option.some.inj hi; omega))
      have HR' := Lib.hid (HRA.out.grown hg4 (by intro i hi; have e : g = i := Option.some.inj hi; intro hh; have e2 : wr.heap.size = i := Option.some.inj hh; omega))
      generalize wr.heap.size = T at *
      clear HNB HRA HRW HX1 HX2 HX3 hg4 hs4 hty
      go_loopw [5, 8] (fun ct i wr => ∃ z : Nat, y < z ∧ z ≤ n ∧ i = .int .i64 z ∧ ct = .int .i64 (f k + difZ a b x y z) ∧ Hid (Blk 57 wr T [(x : Int), (y : Int)]) ∧ Hid (Arr wr B [p0, p1, p2', p3, p4, p5, p6]) ∧ Hid (Arr wr (B + 1) [q0, q1, q2, q3, q4, q5, q6]) ∧ Hid (RowN wr W1.heap.size 57 2 (.slice (some ⟨g, 0, none⟩) M.length c) M) ∧ Hid (Below B w wr)) (fun _ i _ => n - (intOf i).toNat)
      case atStart => exact ⟨y + 1, by omega, by omega, by go_num, by rw [difZ_start, Int.add_zero], HT4, HX1', HX2', HR', HX3'⟩
      case round =>
        obtain ⟨z, hyz, hz, rfl, rfl, ht4, hx1, hx2, hrw, hbl⟩ := hrel
        clear HT4 HX1' HX2' HR' HX3'
        have b2 := HZB.out x y z hz
        have l0 := ldR_run hx1.out rfl
        simp only [ints, List.map_cons, List.map_nil] at l0
        by_cases hlz : z < n
        · go_wp2_with fail
          refine (HSS.out wr).out.mono ?_
          rintro e w5 ⟨rfl, hw5⟩
          have hb5 : Below wr.heap.size wr w5 := by rw [hw5]; exact (Below.refl _ wr).alloc (Nat.le_refl _) _
          have HB5 := Lib.hid hb5
          clear hw5 hb5 l0
          have HN : Hid (Blk 112 (w5.alloc (.cells #[.int .i64 0, .int .i64 0, .int .i64 0] 112)) w5.heap.size [0, 0, 0]) := heap_alloc_new w5 _
          have t0 := ((ht4.out.below HB5.out ht4.out.lt)).cell (i := 0) (by simp)
          have t1 := ((ht4.out.below HB5.out ht4.out.lt)).cell (i := 1) (by simp)
          go_wp2_with (refine store_blk rfl 112 3 three_size _ _ rfl w5.heap.size [0, 0, 0] [(x : Int), (y : Int), (z : Int)] rfl rfl rfl rfl HN ?_; intro w6 HT6 hg6 hs6)
          have hs6' : w6.heap.size = w5.heap.size + 1 := by rw [hs6]; simp
          have HW6 : Hid (Below wr.heap.size wr w6) := (HB5.out.alloc HB5.out.size _).grown hg6 (by have := HB5.out.size; simp; omega) (by intro i hi; have e : w5.heap.size = i := Option.some.inj hi; have := HB5.out.size; omega)
          generalize w5.heap.size = T3 at *
          obtain ⟨S, hS⟩ : ∃ S : World → Prop, S = fun V => Blk 112 V T3 [(x : Int), (y : Int), (z : Int)] ∧ Arr V B [p0, p1, p2', p3, p4, p5, p6] ∧ Arr V (B + 1) [q0, q1, q2, q3, q4, q5, q6] ∧ Blk 57 V T [(x : Int), (y : Int)] ∧ RowN V W1.heap.size 57 2 (.slice (some ⟨g, 0, none⟩) M.length c) M ∧ Below B w V := ⟨_, rfl⟩
          have hSb : ∀ V V', S V → Below V.heap.size V V' → S V' := fun V V' hv hb => by
            rw [hS] at hv ⊢
            obtain ⟨v1, v2, v3, v4, v5, v6⟩ := hv
            exact ⟨v1.below hb v1.lt, v2.below hb v2.lt, v3.below hb v3.lt, v4.below hb v4.lt, v5.below hb (fun i hi => (v5.lt i hi).2), v6.trans (hb.mono (by have := v2.lt; omega))⟩
          have HSL : Hid (∀ V, S V → (ldR ⟨B, 0, none⟩).run Try.prog V = .ok (.agg (ints [p0, p1, p2', p3, p4, p5, p6]).toArray) V ∧ (ldR ⟨B + 1, 0, none⟩).run Try.prog V = .ok (.agg (ints [q0, q1, q2, q3, q4, q5, q6]).toArray) V ∧ (ld3 ⟨T3, 0, none⟩).run Try.prog V = .ok (.agg (ints [(x : Int), (y : Int), (z : Int)]).toArray) V) := fun V hv => by
            rw [hS] at hv
            exact ⟨ldR_run hv.2.1 rfl, ldR_run hv.2.2.1 rfl, ld3_run hv.1 rfl⟩
          have hS0 : S w6 := by
            rw [hS]
            have hb := HW6.out
            exact ⟨HT6.out, hx1.out.below hb hx1.out.lt, hx2.out.below hb hx2.out.lt, ht4.out.below hb ht4.out.lt, hrw.out.below hb (fun i hi => (hrw.out.lt i hi).2), hbl.out.trans (hb.mono (by have := hx1.out.lt; omega))⟩
          have hSd : S w6.drew := hSb _ _ hS0 (Below.refl _ w6).drew
          have HC0 : Hid (∀ V, S V → Calls Try.prog 119 #[.agg (ints [p0, p1, p2', p3, p4, p5, p6]).toArray, .agg (ints [(x : Int), (y : Int), (z : Int)]).toArray] V fun e w' => e = .returned (.bool (has3 a [(x : Int), (y : Int), (z : Int)])) ∧ S w') := fun V hv => (HH0.out x y z (by omega) (by omega) hlz V).mono fun e w' hh => ⟨hh.1, hSb _ _ hv hh.2⟩
          have HC1 : Hid (∀ V, S V → Calls Try.prog 119 #[.agg (ints [q0, q1, q2, q3, q4, q5, q6]).toArray, .agg (ints [(x : Int), (y : Int), (z : Int)]).toArray] V fun e w' => e = .returned (.bool (has3 b [(x : Int), (y : Int), (z : Int)])) ∧ S w') := fun V hv => (HH1.out x y z (by omega) (by omega) hlz V).mono fun e w' hh => ⟨hh.1, hSb _ _ hv hh.2⟩
          have hd : Hid (difZ a b x y (z + 1) = difZ a b x y z + if has3 a [(x : Int), (y : Int), (z : Int)] = has3 b [(x : Int), (y : Int), (z : Int)] then 0 else 1) := HZS.out x y z hyz
          have HS := Lib.hid hS
          simp only [ints, List.map_cons, List.map_nil] at HC0 HC1 HSL
          clear hS hSb hS0 ht4 hx1 hx2 hrw hbl HW6 HT6 hg6 hs6 hs6' HN t0 t1 HB5
          generalize has3 a [(x : Int), (y : Int), (z : Int)] = r0 at *
          generalize has3 b [(x : Int), (y : Int), (z : Int)] = r1 at *
          generalize difZ a b x y z = dz at *
          cases r0 <;> cases r1
          all_goals
            go_region_held3 (fun V => (ldR ⟨B, 0, none⟩).run Try.prog V = .ok (.agg #[.int .i64 p0, .int .i64 p1, .int .i64 p2', .int .i64 p3, .int .i64 p4, .int .i64 p5, .int .i64 p6]) V ∧ (ldR ⟨B + 1, 0, none⟩).run Try.prog V = .ok (.agg #[.int .i64 q0, .int .i64 q1, .int .i64 q2, .int .i64 q3, .int .i64 q4, .int .i64 q5, .int .i64 q6]) V ∧ (ld3 ⟨T3, 0, none⟩).run Try.prog V = .ok (.agg #[.int .i64 x, .int .i64 y, .int .i64 z]) V)
              (exact HSL.out _ (by with_reducible assumption))
              (first
                | (go_at_call_of 119 (Value.agg #[Value.int IntKind.i64 p0, Value.int IntKind.i64 p1, Value.int IntKind.i64 p2', Value.int IntKind.i64 p3, Value.int IntKind.i64 p4, Value.int IntKind.i64 p5, Value.int IntKind.i64 p6]); refine (HC0.out _ (by with_reducible assumption)).mono ?_; rintro e w' ⟨rfl, hS'⟩)
                | (go_at_call_of 119 (Value.agg #[Value.int IntKind.i64 q0, Value.int IntKind.i64 q1, Value.int IntKind.i64 q2, Value.int IntKind.i64 q3, Value.int IntKind.i64 q4, Value.int IntKind.i64 q5, Value.int IntKind.i64 q6]); refine (HC1.out _ (by with_reducible assumption)).mono ?_; rintro e w' ⟨rfl, hS'⟩))
            all_goals
              rw [HS.out] at hS'
              obtain ⟨v1, v2, v3, v4, v5, v6⟩ := hS'
              go_wp2
              go_roundw
              case rel => exact ⟨z + 1, by omega, by omega, by go_num, by simp [hd.out] <;> omega, Lib.hid v4, Lib.hid v2, Lib.hid v3, Lib.hid v5, Lib.hid v6⟩
              case measure => simp [intOf]; omega
        · obtain rfl : z = n := by omega
          have hst := hstep
          go_wp2_with fail
          refine (HSS.out wr).out.mono ?_
          rintro e w5 ⟨rfl, hw5⟩
          have hb5 : Below wr.heap.size wr w5 := by rw [hw5]; exact (Below.refl _ wr).alloc (Nat.le_refl _) _
          have HX1 := Lib.hid (hx1.out.below hb5 hx1.out.lt)
          have HX2 := Lib.hid (hx2.out.below hb5 hx2.out.lt)
          have HR := Lib.hid (hrw.out.below hb5 (fun i hi => (hrw.out.lt i hi).2))
          have HB' := Lib.hid (hbl.out.trans (hb5.mono (by have := hx1.out.lt; omega)))
          clear hw5 hb5 l0
          go_wp2
          go_roundw
          case rel => exact ⟨k + 1, by omega, by go_num, by rw [hst], HX1, HX2, HR, HB'⟩
          case measure => simp [intOf]; omega
    · obtain rfl : k = M.length := by omega
      go_wp2
      go_ret
      exact ⟨rfl, by rw [HBB.out] at hbl; exact hbl.out⟩
end Go.Proofs.Ytamnacgclhaggab
