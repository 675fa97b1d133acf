/- The sets at which a ring has a pattern, in ascending order: the program. -/
import Derived.Test.YtphffefkjbgibabDoorPnR
import Derived.Test.YtphffefkjbgibabDoorPnO
import Derived.Test.YtphffefkjbgibabDoorPnD
import Derived.Test.YtphffefkjbgibabDoorAllR
import Derived.Test.YtphffefkjbgibabDoorFold
import Derived.Laws.StructEq
import Derived.Deep.RegionHeld3
namespace Go.Proofs.YtphffefkjbgibabDoor
open Go.ChangeShapes Go.WideShapes Go.ChangeAt Go.RowKit

/-- '!=' of two arrays. -/
theorem neq_ring (w : World) (a0 a1 a2 a3 a4 a5 a6 b0 b1 b2 b3 b4 b5 b6 : Int) :
    (binOp .neq 38 (ag a0 a1 a2 a3 a4 a5 a6) (ag b0 b1 b2 b3 b4 b5 b6)).run Tryd.prog w = .ok (.bool (!decide ([a0, a1, a2, a3, a4, a5, a6] = [b0, b1, b2, b3, b4, b5, b6]))) w := by
  obtain ⟨i, hi⟩ := int_row
  have ha : (isAgg 3).run Tryd.prog w = .ok false w := by
    unfold isAgg
    rw [Sem.run_bind, run_underlying Tryd.underlying3 w]
    simp
  rw [run_neq_struct, run_equalIn_array w 9999 _ _ Tryd.underlying38 hi, cells_int]
  simp only [List.range, List.range.loop, Op.eqItems]
  simp [part, ha, Sem.run_bind, run_equalIn_int _ _ _ _ _ _ _ Tryd.underlying3]
  repeat' split
  all_goals simp [*]

theorem pad_inj {a b : List Int} (ha : ∀ x ∈ a, 0 ≤ x) (hb : ∀ x ∈ b, 0 ≤ x) : decide (padR a = padR b) = decide (a = b) := by
  rw [decide_eq_decide]
  refine ⟨fun h => ?_, fun h => by rw [h]⟩
  have := congrArg unpad h
  rwa [unpad_pad a ha, unpad_pad b hb] at this

attribute [local go_sem ↓] ldR_fold in
set_option maxRecDepth 10000 in
set_option maxHeartbeats 2000000 in
theorem sw1_any (l p : List Int) (s g1 g2 : Nat) (w : World) (ht : Tell l) (h0 : 0 < s) (hs : s < 2 ^ l.length) (hT : Tab w) (hp7 : p.length ≤ 7) (hp : ∀ x ∈ p, 0 ≤ x) (h1 : Arr w g1 (padR l)) (h2 : Arr w g2 (padR p)) :
    Calls Tryd.prog 51 #[.int .i64 (s : Int), .pointer (some ⟨g1, 0, none⟩), .pointer (some ⟨g2, 0, none⟩)] w fun e w' => e = .returned (.bool (!atN l p s)) ∧ Below w.heap.size w w' := by
  have HC := Lib.hid (fun (W : World) (hW : Tab W) => patAt_any l s W ht h0 hs hW)
  have HD : Hid (decide (padR (patL l s) = padR p) = atN l p s) := pad_inj (fun x hx => (pat_bd l s x hx).1) hp
  have h71 := padR_length l ht.2.1
  have h72 := padR_length (patL l s) (by rw [pat_length ht hs]; exact siz_le s)
  have h73 := padR_length p hp7
  have HT : Hid (Tab w.drew) := hT
  clear ht h0 hs hp7 hp hT
  unfold agp at HC
  generalize atN l p s = r at *
  generalize padR (patL l s) = Q at *
  generalize padR l = P at *
  generalize padR p = R at *
  obtain ⟨p0, p1, p2, p3, p4, p5, p6, rfl⟩ := seven h71
  obtain ⟨q0, q1, q2, q3, q4, q5, q6, rfl⟩ := seven h72
  obtain ⟨r0, r1, r2, r3, r4, r5, r6, rfl⟩ := seven h73
  have HN : Hid (∀ W : World, (binOp .neq 38 (ag q0 q1 q2 q3 q4 q5 q6) (ag r0 r1 r2 r3 r4 r5 r6)).run Tryd.prog W = .ok (.bool (!r)) W) := fun W => by
    rw [neq_ring, HD.out]
  have heq := HN.out
  have H1 := Lib.hid h1
  have H2 := Lib.hid h2
  have l1 := ldR_run h1.drew rfl
  have l2 := ldR_run h2.drew rfl
  simp only [ints, List.map_cons, List.map_nil] at HC l1 l2
  clear h1 h2 h71 h72 h73
  go_enter Tryd.func51, Tryd.ntmps51
  go_wp2_with fail
  go_region_held3 (fun V => (ldR ⟨g1, 0, none⟩).run Tryd.prog V = .ok (.agg #[.int .i64 p0, .int .i64 p1, .int .i64 p2, .int .i64 p3, .int .i64 p4, .int .i64 p5, .int .i64 p6]) V ∧ (ldR ⟨g2, 0, none⟩).run Tryd.prog V = .ok (.agg #[.int .i64 r0, .int .i64 r1, .int .i64 r2, .int .i64 r3, .int .i64 r4, .int .i64 r5, .int .i64 r6]) V)
    (first
      | exact ⟨la, lb⟩
      | exact ⟨l1, l2⟩)
    (first
      | (go_at_call 44; refine (HC.out _ HT.out).mono ?_; rintro e wa ⟨rfl, hba⟩
         have HBA : Hid (Below w.heap.size w wa) := (Below.refl w.heap.size w).drew.trans (hba.mono (Nat.le_refl _))
         have la := ldR_run (H1.out.drew.below hba H1.out.lt) rfl
         have lb := ldR_run (H2.out.drew.below hba H2.out.lt) rfl
         simp only [ints, List.map_cons, List.map_nil] at la lb
         clear hba))
  all_goals
    go_wp2
    go_ret
    exact ⟨rfl, HBA.out⟩

/-- The sets at which a ring has a pattern. -/
def swL (l p : List Int) : List Int := (setsL l p).map fun s : Nat => (s : Int)
theorem sw_filter {l p : List Int} (ht : Tell l) : ((szL p.length (2 ^ l.length)).filter fun x => !(!atN l p x.toNat)) = swL l p := by
  unfold szL swL setsL
  rw [List.filter_map, List.filter_filter]
  congr 1
  refine List.filter_congr fun s hs => ?_
  have hs' := List.mem_range.1 hs
  by_cases h : sizN s = p.length
  · simp [h]
  · have e := at_siz (p := p) ht hs' h
    simp [e]
theorem swL_len (l p : List Int) (h : l.length ≤ 7) : (swL l p).length ≤ 128 := by
  unfold swL setsL
  rw [List.length_map]
  have h1 := List.length_filter_le (atN l p) (List.range (2 ^ l.length))
  rw [List.length_range] at h1
  have h2 : 2 ^ l.length ≤ 2 ^ 7 := Nat.pow_le_pow_right (by omega) h
  omega
/-- An array of a list of n points, at hand. -/
def SzV (x : Value) (n : Nat) : Prop := ∃ l : List Int, x = agp l ∧ l.length = n ∧ l.length ≤ 7 ∧ ∀ x ∈ l, 0 ≤ x
theorem size_gen {x : Value} {n : Nat} (h : SzV x n) (w : World) :
    Calls Tryd.prog 39 #[x] w fun e w' => e = .returned (.int .i64 (n : Int)) ∧ Below w.heap.size w w' := by
  obtain ⟨l, rfl, rfl, h7, hp⟩ := h
  refine (size_any l w h7 hp).mono ?_
  rintro e w' ⟨rfl, rfl⟩
  exact ⟨rfl, (Below.refl _ _).alloc (Nat.le_refl _) _⟩

attribute [local go_sem ↓] ldR_fold in
set_option maxRecDepth 10000 in
set_option maxHeartbeats 2000000 in
theorem setsW_any (l p : List Int) (w : World) (ht : Tell l) (hp : Tell p) (hT : Tab w) :
    Calls Tryd.prog 22 #[agp l, agp p] w fun e w' => ∃ v, e = .returned v ∧ Own w' w.heap.size v (swL l p) ∧ Below w.heap.size w w' := by
  have hm3 := hp.1
  have S1 : SzV (agp l) l.length := ⟨l, rfl, rfl, ht.2.1, ht.pos⟩
  have S2 : SzV (agp p) p.length := ⟨p, rfl, rfl, hp.2.1, hp.pos⟩
  have HSO := Lib.hid (fun W => setsOf_any l.length p.length W ht.2.1)
  have HFL := Lib.hid (sw_filter (p := p) ht)
  have hlen : (szL p.length (2 ^ l.length)).length ≤ 1000 := by
    have h1 := szL_len p.length (2 ^ l.length)
    have h2 : 2 ^ l.length ≤ 2 ^ 7 := Nat.pow_le_pow_right (by omega) ht.2.1
    omega
  have HLEN := Lib.hid hlen
  have h71 := padR_length l ht.2.1
  have h73 := padR_length p hp.2.1
  obtain ⟨W0, hW⟩ : ∃ W, W = (w.alloc (.cells (ints (padR l)).toArray 38)).alloc (.cells (ints (padR p)).toArray 38) := ⟨_, rfl⟩
  have HA1 : Hid (Arr W0 w.heap.size (padR l)) := by
    have h1 : Arr (w.alloc (.cells (ints (padR l)).toArray 38)) w.heap.size (padR l) := heap_alloc_new w _
    rw [hW]; exact h1.alloc _
  have HA2 : Hid (Arr W0 (w.heap.size + 1) (padR p)) := by
    have h1 : Arr ((w.alloc (.cells (ints (padR l)).toArray 38)).alloc (.cells (ints (padR p)).toArray 38)) (w.alloc (.cells (ints (padR l)).toArray 38)).heap.size (padR p) := heap_alloc_new _ _
    rw [hW, Hid]; simpa using h1
  have HB0 : Hid (Below w.heap.size w W0 ∧ W0.heap.size = w.heap.size + 2) := by rw [hW]; exact ⟨((Below.refl _ _).alloc (Nat.le_refl _) _).alloc (by simp) _, by simp⟩
  have HT0 := Lib.hid (hT.on HB0.out.1)
  obtain ⟨L, hL⟩ : ∃ L, L = szL p.length (2 ^ l.length) := ⟨_, rfl⟩
  rw [← hL] at HSO HFL HLEN
  obtain ⟨q, hq⟩ : ∃ q : Int → Bool, q = fun x => !atN l p x.toNat := ⟨_, rfl⟩
  have HCL' : Hid (∀ (W : World) (g1 g2 : Nat), Tab W → Arr W g1 (padR l) → Arr W g2 (padR p) → ∀ x ∈ L, Calls Tryd.prog 51 #[.int .i64 x, .pointer (some ⟨g1, 0, none⟩), .pointer (some ⟨g2, 0, none⟩)] W fun e w' => e = .returned (.bool (q x)) ∧ Below W.heap.size W w') := fun W g1 g2 hW h1 h2 x hx => by
    obtain ⟨s, rfl, hs, hz⟩ := szL_mem (by rw [← hL]; exact hx)
    rw [hq]
    exact sw1_any l p s g1 g2 W ht (siz_pos hz (by omega)) hs hW hp.2.1 hp.pos h1 h2
  have HFL' : Hid ((L.filter fun x => !q x) = swL l p) := by rw [Hid, hq]; exact HFL.out
  generalize swL l p = R at *
  clear ht hp hT hlen HFL hL hq hm3
  generalize l.length = n at *
  generalize p.length = m at *
  unfold agp at S1 S2 ⊢
  generalize padR l = P at *
  generalize padR p = Q at *
  obtain ⟨p0, p1, p2, p3, p4, p5, p6, rfl⟩ := seven h71
  obtain ⟨q0, q1, q2, q3, q4, q5, q6, rfl⟩ := seven h73
  have l1 := ldR_run HA1.out.drew rfl
  have l2 := ldR_run HA2.out.drew rfl
  simp only [ints, List.map_cons, List.map_nil] at l1 l2 S1 S2 hW ⊢
  clear h71 h73
  go_enter Tryd.func22, Tryd.ntmps22
  go_wp2_with fail
  rw [← hW]
  clear hW
  go_region_held3 (fun V => (ldR ⟨w.heap.size, 0, none⟩).run Tryd.prog V = .ok (.agg #[.int .i64 p0, .int .i64 p1, .int .i64 p2, .int .i64 p3, .int .i64 p4, .int .i64 p5, .int .i64 p6]) V ∧ (ldR ⟨w.heap.size + 1, 0, none⟩).run Tryd.prog V = .ok (.agg #[.int .i64 q0, .int .i64 q1, .int .i64 q2, .int .i64 q3, .int .i64 q4, .int .i64 q5, .int .i64 q6]) V)
    (first
      | exact ⟨le, lf⟩
      | exact ⟨lc, ld⟩
      | exact ⟨la, lb⟩
      | exact ⟨l1, l2⟩)
    (first
      | (go_at_call 49; refine (HSO.out _).mono ?_; rintro e wc ⟨vc, rfl, hoc, hbc⟩
         have HBC := Lib.hid (HBB.out.trans (hbc.mono HBB.out.size))
         have HOC := Lib.hid (own_less hoc HBB.out.size)
         have le := ldR_run (HA1.out.below HBC.out HA1.out.lt) rfl
         have lf := ldR_run (HA2.out.below HBC.out HA2.out.lt) rfl
         simp only [ints, List.map_cons, List.map_nil] at le lf
         clear hoc hbc)
      | (go_at_call 39
         have HBAx := HBA.out
         refine (size_gen (by first | exact S1 | exact S2) _).mono ?_; rintro e wb ⟨rfl, hbb⟩
         have HBB := Lib.hid (HBAx.trans (hbb.mono HBAx.size))
         have lc := ldR_run (HA1.out.below HBB.out HA1.out.lt) rfl
         have ld := ldR_run (HA2.out.below HBB.out HA2.out.lt) rfl
         simp only [ints, List.map_cons, List.map_nil] at lc ld
         clear hbb HBAx)
      | (go_at_call 39; refine (size_gen (by first | exact S1 | exact S2) _).mono ?_; rintro e wa ⟨rfl, hba⟩
         have HBA : Hid (Below W0.heap.size W0 wa) := (Below.refl W0.heap.size W0).drew.trans (hba.mono (Nat.le_refl _))
         have la := ldR_run (HA1.out.below HBA.out HA1.out.lt) rfl
         have lb := ldR_run (HA2.out.below HBA.out HA2.out.lt) rfl
         simp only [ints, List.map_cons, List.map_nil] at la lb
         clear hba))
  all_goals
    obtain ⟨Ac, cc, ev⟩ := HOC.out.slice
    subst ev
    clear la lb lc ld le lf l1 l2
    go_wp2_with fail
    refine (deleteF_two 51 (enters_fn Tryd.func51 (by decide) rfl) (.pointer (some ⟨w.heap.size, 0, none⟩)) (.pointer (some ⟨w.heap.size + 1, 0, none⟩)) q W0.heap.size _ L wc HOC.out HBC.out.size HLEN.out (fun W hW x hx => HCL'.out W _ _ (HT0.out.on (HBC.out.trans hW)) (HA1.out.below (HBC.out.trans hW) HA1.out.lt) (HA2.out.below (HBC.out.trans hW) HA2.out.lt) x hx)).mono ?_
    rintro e wd ⟨v', rfl, hod, hbd⟩
    rw [HFL'.out] at hod
    have HOD := Lib.hid (own_less hod HB0.out.1.size)
    have HBD := Lib.hid (HB0.out.1.trans ((HBC.out.trans hbd).mono HB0.out.1.size))
    obtain ⟨Ad, cd, ev⟩ := hod.slice
    subst ev
    clear hod hbd
    go_wp2
    go_ret
    exact ⟨_, rfl, HOD.out, HBD.out⟩
end Go.Proofs.YtphffefkjbgibabDoor
