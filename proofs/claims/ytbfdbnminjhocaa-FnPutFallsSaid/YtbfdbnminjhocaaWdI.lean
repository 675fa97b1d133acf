/- Windings of the program: a ring that goes round another one, its steps, how often; falls. -/
import Derived.Test.YtbfdbnminjhocaaWindM
import Derived.Test.YtbfdbnminjhocaaTwo
import Derived.Deep.RegionWith
namespace Go.Proofs.Ytbfdbnminjhocaa
open Go.ChangeShapes Go.WideShapes Go.ChangeAt Go.RowKit

theorem wind_size : (Try.prog.info? 69).map (·.size) = some 14 := by kernel_rfl
/-- The two rings of a winding as a value. -/
abbrev agw (P Q : List Int) : Value := .agg (ints (P ++ Q)).toArray
/-- Block g holds the two rings of a winding. -/
abbrev Bw (w : World) (g : Nat) (P Q : List Int) : Prop := Blk 69 w g (P ++ Q)
theorem Bw.lt {w : World} {g : Nat} {P Q : List Int} (h : Bw w g P Q) : g < w.heap.size := (Array.getElem?_eq_some_iff.1 h).1
theorem Bw.below {w w' : World} {g D : Nat} {P Q : List Int} (h : Bw w g P Q) (hb : Below D w w') (hg : g < D) : Bw w' g P Q := (hb.block g hg).trans h
theorem Bw.c {w : World} {g : Nat} {P Q : List Int} (h : Bw w g P Q) (i : Nat) (hi : i < (P ++ Q).length) : w.cell? ⟨g, i, none⟩ = some (.int .i64 ((P ++ Q).getD i 0)) := by
  rw [cell_of_row w g i _ _ (0, 0) h, List.getElem?_toArray, ints_get _ _ hi]
theorem ldW0 {w : World} {g : Nat} {P Q : List Int} (h : Bw w g P Q) (hP : P.length = 7) : (ldR ⟨g, 0, none⟩).run Try.prog w = .ok (.agg (ints P).toArray) w := by
  refine run_load_at w 52 g 0 (ints P) _ (fun j u hu => ?_) rfl Try.underlying52 (by rw [ring_size]; simp [hP])
  have hj : j < P.length := by have := (List.getElem?_eq_some_iff.1 hu).1; simpa using this
  rw [Nat.zero_add, Bw.c h j (by simp; omega), ← hu, ints_get _ _ hj]
  simp [List.getD, List.getElem?_append_left hj]
theorem ldW1 {w : World} {g : Nat} {P Q : List Int} (h : Bw w g P Q) (hP : P.length = 7) (hQ : Q.length = 7) : (ldR ⟨g, 7, none⟩).run Try.prog w = .ok (.agg (ints Q).toArray) w := by
  refine run_load_at w 52 g 7 (ints Q) _ (fun j u hu => ?_) rfl Try.underlying52 (by rw [ring_size]; simp [hQ])
  have hj : j < Q.length := by have := (List.getElem?_eq_some_iff.1 hu).1; simpa using this
  rw [Bw.c h (7 + j) (by simp; omega), ← hu, ints_get _ _ hj]
  simp [List.getD, List.getElem?_append_right (show P.length ≤ 7 + j by omega), hP]
/-- A whole winding loaded, by another name. -/
def ldW (p : Addr) : Sem Value := loadVar 69 p
theorem ldW_fold (p : Addr) : loadVar 69 p = ldW p := rfl
theorem ldW_run {w : World} {g : Nat} {P Q : List Int} (h : Bw w g P Q) (hP : P.length = 7) (hQ : Q.length = 7) : (ldW ⟨g, 0, none⟩).run Try.prog w = .ok (agw P Q) w :=
  run_loadVar_row (P := Try.prog) w g 69 69 _ (0, 0) _ h Try.underlying69 rfl (by rw [wind_size]; simp [hP, hQ])

/-- A whole winding stored, by another name. -/
def stW (p : Addr) (v : Value) : Sem Unit := storeVar 69 p v
theorem stW_fold (p : Addr) (v : Value) : storeVar 69 p v = stW p v := rfl
theorem stW_run {w : World} {g : Nat} {old P : List Int} (h : Blk 69 w g old) (hP : old.length = 14) (hQ : P.length = 14) : ∃ w', (stW ⟨g, 0, none⟩ (.agg (ints P).toArray)).run Try.prog w = .ok () w' ∧ Blk 69 w' g P ∧ w.grownBy w' (some g) ∧ w'.heap.size = w.heap.size := by
  refine ⟨w.setRow g (ints P).toArray, ?_, ?_, ?_, ?_⟩
  · have hs := run_storeCells_at Try.prog g 0 69 (ints P) 0 _ w h (by simp [hP, hQ]) (ints_oneCell P)
    cases hq : Try.prog.info? 69 with
    | none => have := wind_size; simp [hq] at this
    | some i =>
      have hsz : i.size = 14 := by have := wind_size; simpa [hq] using this
      simp only [Nat.add_zero] at hs
      unfold stW
      simp [storeVar, sizeOf, typeInfo, hq, Value.cells, hsz, hQ, hs]
      rw [List.drop_eq_nil_of_le (by simp [hP])]
      simp
  · exact setRow_heap w g _ _ _ _ h
  · exact ⟨rfl, rfl, rfl, by simp, fun k _ hk => setRow_other w g k _ (fun e => hk (by simp [e]))⟩
  · simp

/-- A row of ints that is still the empty literal, or the call's own beyond D. -/
def RowE (w : World) (D e0 : Nat) (v : Value) (C : List Int) : Prop := (C = [] ∧ v = .slice (some ⟨e0, 0, none⟩) 0 0) ∨ Own w D v C
theorem RowE.keep {w w' : World} {D e0 : Nat} {v : Value} {C : List Int} (h : RowE w D e0 v C) (hb : Below w.heap.size w w') : RowE w' D e0 v C := by
  rcases h with h | h
  · exact .inl h
  · refine .inr ⟨h.1, ?_⟩
    rcases h.2 with e | ⟨g, cap, cur, hv, hg, hh, r⟩
    · exact .inl e
    · exact .inr ⟨g, cap, cur, hv, hg, by rw [hb.block g (Array.getElem?_eq_some_iff.1 hh).1]; exact hh, r⟩
theorem rowE_run {V : World} {D e0 : Nat} {v : Value} {C : List Int} (h : RowE V D e0 v C) (hD : D ≤ V.heap.size) (hl : C.length ≤ 3000) (x : Int) :
    ∃ v' w', (∀ ty, (apI #[23, 23] ty #[v, .slice (some ⟨V.heap.size, 0, none⟩) 1 1]).run Try.prog (V.alloc (.cells #[.int .i64 x] 3)) = .ok v' w') ∧ Own w' D v' (C ++ [x]) ∧ Below D V w' := by
  rcases h with ⟨rfl, rfl⟩ | h
  · obtain ⟨i0, hi, hz0, hz1, hz2⟩ := info_parts int_info
    obtain ⟨v', w', hrun, hown, hgr⟩ := run_append_arg_grows (P := Try.prog) (V.alloc (.cells #[.int .i64 x] 3)) 23 23 3 i0 (.int .i64 0) 1 8 Try.underlying23 hi hz0 hz1 hz2 rfl (by decide) ⟨e0, 0, none⟩ 0 0 [] (by simp) (by simp) ⟨V.heap.size, 0, none⟩ 1 1 [.int .i64 x] (by simp) (one_cell V _ _) (by omega) (by unfold maxLen; omega) (by omega)
    refine ⟨v', w', fun _ => hrun, own_less (B := (V.alloc (.cells #[.int .i64 x] 3)).heap.size) ?_ (by simp; omega), ((Below.refl D V).alloc hD _).grown hgr (by simp; omega) (by simp)⟩
    unfold Own
    simpa [ints] using hown
  · obtain ⟨v', w', hrun, hown, hgr⟩ := apI_run h hD hl x
    exact ⟨v', w', hrun, hown, apI_below h hgr (Nat.le_refl _) (Below.refl D V) hD⟩

attribute [local go_sem ↓] ldR_fold stR_fold ldW_fold stW_fold in
set_option maxRecDepth 10000 in
set_option maxHeartbeats 2000000 in
theorem rdw_any (A0 : Option Addr) (n0 c0 : Nat) (A1 : Option Addr) (n1 c1 H : Nat) (l0 l1 : List Int) (w : World) (h0 : Rd w H A0 n0 l0) (h1 : Rd w H A1 n1 l1) (hH : H ≤ w.heap.size) (hn0 : n0 ≤ 1048576) (hn1 : n1 ≤ 1048576) (hnc0 : n0 ≤ c0) (hcm0 : c0 ≤ 9223372036854775807) (hnc1 : n1 ≤ c1) (hcm1 : c1 ≤ 9223372036854775807) :
    Calls Try.prog 64 #[.slice A0 n0 c0, .slice A1 n1 c1] w fun e w' => e = .returned (.tuple #[agw (ringP l0) (ringP l1), .bool (twoB l0 l1)]) ∧ Below w.heap.size w w' := by
  have HT := Lib.hid (fun V (hV : Below w.heap.size w V) => two_any A0 n0 c0 A1 n1 c1 H l0 l1 V (h0.below (hV.mono hH)) (h1.below (hV.mono hH)) (Nat.le_trans hH hV.size) hn0 hn1 hnc0 hcm0 hnc1 hcm1)
  have H70 := ringP_length l0
  have H71 := ringP_length l1
  clear h0 h1
  generalize ringP l0 = P0 at *
  generalize ringP l1 = P1 at *
  generalize twoB l0 l1 = b at *
  obtain ⟨p0, p1, p2, p3, p4, p5, p6, rfl⟩ := seven H70
  obtain ⟨q0, q1, q2, q3, q4, q5, q6, rfl⟩ := seven H71
  go_enter Try.func64, Try.ntmps64
  go_wp2_with fail
  obtain ⟨W0, hW0⟩ : ∃ W, W = w.alloc (.cells #[.int .i64 0, .int .i64 0, .int .i64 0, .int .i64 0, .int .i64 0, .int .i64 0, .int .i64 0, .int .i64 0, .int .i64 0, .int .i64 0, .int .i64 0, .int .i64 0, .int .i64 0, .int .i64 0] 69) := ⟨_, rfl⟩
  rw [← hW0]
  have HZ : Hid (Blk 69 W0 w.heap.size [0, 0, 0, 0, 0, 0, 0, 0, 0, 0, 0, 0, 0, 0]) := by rw [hW0]; exact heap_alloc_new w _
  have HB0 : Hid (Below w.heap.size w W0) := by rw [hW0]; exact (Below.refl _ _).alloc (Nat.le_refl _) _
  have hs0 : W0.heap.size = w.heap.size + 1 := by rw [hW0]; simp
  clear hW0
  generalize hB : w.heap.size = B at *
  have HB := Lib.hid hB
  clear hB
  refine (HT.out W0 HB0.out).mono ?_
  rintro e W1 ⟨rfl, hb1⟩
  have HZ1 : Hid (Blk 69 W1 B [0, 0, 0, 0, 0, 0, 0, 0, 0, 0, 0, 0, 0, 0]) := (hb1.block B (by omega)).trans HZ.out
  have HB1 : Hid (Below B w W1) := HB0.out.trans (hb1.mono (by omega))
  have hs1 : B + 1 ≤ W1.heap.size := by have := hb1.size; omega
  clear hb1 HZ HB0 hs0 HT
  obtain ⟨W2, hW2⟩ : ∃ W, W = (W1.alloc (.cells #[.int .i64 0, .int .i64 0, .int .i64 0, .int .i64 0, .int .i64 0, .int .i64 0, .int .i64 0] 52)).alloc (.cells #[.int .i64 0, .int .i64 0, .int .i64 0, .int .i64 0, .int .i64 0, .int .i64 0, .int .i64 0] 52) := ⟨_, rfl⟩
  have N1 : Arr W2 W1.heap.size zero7 := by rw [hW2]; exact (new_ring W1).alloc _
  have N2 : Arr W2 (W1.heap.size + 1) zero7 := by
    have := new_ring (W1.alloc (.cells #[.int .i64 0, .int .i64 0, .int .i64 0, .int .i64 0, .int .i64 0, .int .i64 0, .int .i64 0] 52))
    rw [hW2]; simpa using this
  have hb2 : Below W1.heap.size W1 W2 := by rw [hW2]; exact ((Below.refl _ _).alloc (Nat.le_refl _) _).alloc (by simp) _
  have HZ2 : Blk 69 W2 B [0, 0, 0, 0, 0, 0, 0, 0, 0, 0, 0, 0, 0, 0] := (hb2.block B (by omega)).trans HZ1.out
  have HB2 : Below B w W2 := HB1.out.trans (hb2.mono (by omega))
  obtain ⟨W3, r3, a3, g3, s3⟩ := stR_run (Q := [p0, p1, p2, p3, p4, p5, p6]) N1 rfl rfl
  obtain ⟨W4, r4, a4, g4, s4⟩ := stR_run (Q := [q0, q1, q2, q3, q4, q5, q6]) (N2.grown g3 (by omega)) rfl rfl
  have l1 := ldR_run (a3.grown g4 (by omega)) rfl
  have l2 := ldR_run a4 rfl
  have hlt1 := N1.lt
  have hlt2 := N2.lt
  have HZ3 : Blk 69 W3 B [0, 0, 0, 0, 0, 0, 0, 0, 0, 0, 0, 0, 0, 0] := (g3.block B (by omega) (by simp; omega)).trans HZ2
  have HZ4 : Blk 69 W4 B [0, 0, 0, 0, 0, 0, 0, 0, 0, 0, 0, 0, 0, 0] := (g4.block B (by omega) (by simp; omega)).trans HZ3
  obtain ⟨W5, r5, a5, g5, s5⟩ := stW_run (P := [p0, p1, p2, p3, p4, p5, p6, q0, q1, q2, q3, q4, q5, q6]) HZ4 rfl rfl
  have HB5 : Hid (Below B w W5) := ((HB2.grown g3 (by omega) (by simp; omega)).grown g4 (by omega) (by simp; omega)).grown g5 (by omega) (by simp)
  have HA5 := Lib.hid a5
  simp only [ints, List.map_cons, List.map_nil] at l1 l2 r5
  rw [hW2] at r3
  clear N1 N2 hb2 HZ2 HB2 a3 g3 s3 a4 g4 s4 HZ3 HZ4 a5 g5 s5 hlt1 hlt2 HZ1 HB1
  clear hW2
  go_wp2_with fail
  exact ret_blk2 _ 14 wind_size _ rfl Try.underlying69 rfl B _ rfl rfl HA5 rfl ⟨rfl, by rw [HB.out]; exact HB5.out⟩

/-- What is asked of two lists for a winding. -/
structure W2 (l0 l1 : List Int) : Prop where
  t0 : Tell l0
  t1 : Tell l1
  len : l0.length = l1.length
theorem W2.mem {l0 l1 : List Int} (h : W2 l0 l1) : ∀ x ∈ l0, x ∈ l1 := fun x hx => by
  have hh := h.t0.2.2.1 x hx
  have := all_in l1 h.t1.2.2.2 h.t1.2.2.1 x.toNat (by have := h.len; omega)
  rwa [Int.toNat_of_nonneg hh.1] at this
theorem TwoR.w2 {l0 l1 : List Int} (h : TwoR l0 l1) : W2 l0 l1 := ⟨h.1.1, h.2.1.1, h.2.2⟩
theorem next_is {l : List Int} (hn : l.Nodup) {i : Nat} (hi : i < l.length) : l.getD ((l.idxOf (l.getD i 0) + 1) % l.length) 0 = l.getD ((i + 1) % l.length) 0 := by
  have e : l.getD i 0 = l[i] := by simp [List.getD, hi]
  rw [e, hn.idxOf_getElem i hi]

attribute [local go_sem ↓] ldR_fold apI_fold in
set_option maxRecDepth 10000 in
set_option maxHeartbeats 2000000 in
theorem path_any (l0 l1 : List Int) (w : World) (h : W2 l0 l1) :
    Calls Try.prog 75 #[agw (padR l0) (padR l1)] w fun e w' => ∃ v, e = .returned v ∧ Own w' w.heap.size v (pathL l0 l1) ∧ Below w.heap.size w w' := by
  have hl7 := h.t0.2.1
  have hl3 := h.t0.1
  have hm := h.mem
  obtain ⟨n, hn⟩ : ∃ n, n = l0.length := ⟨_, rfl⟩
  have HN := Lib.hid hn
  have HLI := Lib.hid (fun W => list_any l0 W (by omega) hl7 h.t0.pos)
  have HNX := Lib.hid (fun (i : Nat) (hi : i < n) W => by
    have := next_any l0 (l0.getD i 0) W (by omega) hl7 h.t0.pos (getD_mem _ _ (by omega))
    rw [next_is h.t0.2.2.2 (by omega), ← hn] at this
    exact this)
  have HST := Lib.hid (fun (i : Nat) (hi : i < n) W => by
    have := steps_any l1 (l0.getD i 0) (l0.getD ((i + 1) % n) 0) W (by have := h.len; omega) (by have := h.len; omega) h.t1.pos (hm _ (getD_mem _ _ (by omega))) (hm _ (getD_mem _ _ (by rw [← hn]; exact Nat.mod_lt _ (by omega))))
    exact this)
  have HSN : Hid (∀ k, k < n → (pathL l0 l1).take k ++ [stepsI l1 (l0.getD k 0) (l0.getD ((k + 1) % n) 0)] = (pathL l0 l1).take (k + 1)) := fun k hk => by
    have := pathL_snoc l0 l1 k (by omega)
    rw [stepN, ← hn] at this
    exact this
  have HPL : Hid ((pathL l0 l1).length = n) := by rw [Hid, pathL_length, hn]
  have h70 := padR_length l0 hl7
  have h71 := padR_length l1 (by have := h.len; omega)
  unfold agp at HLI HNX HST
  clear h hm
  generalize padR l0 = P0 at *
  generalize padR l1 = P1 at *
  generalize hC : pathL l0 l1 = C at *
  have HC := Lib.hid hC
  clear hC
  obtain ⟨p0, p1, p2, p3, p4, p5, p6, rfl⟩ := seven h70
  obtain ⟨q0, q1, q2, q3, q4, q5, q6, rfl⟩ := seven h71
  have hn3 : 3 ≤ n := by omega
  have hn7 : n ≤ 7 := by omega
  obtain ⟨W0, hW0⟩ : ∃ W, W = w.alloc (.cells (ints [p0, p1, p2, p3, p4, p5, p6, q0, q1, q2, q3, q4, q5, q6]).toArray 69) := ⟨_, rfl⟩
  have hx0 : Bw W0 w.heap.size [p0, p1, p2, p3, p4, p5, p6] [q0, q1, q2, q3, q4, q5, q6] := by rw [hW0]; exact heap_alloc_new w _
  have hb0 : Below w.heap.size w W0 := by rw [hW0]; exact (Below.refl _ _).alloc (Nat.le_refl _) _
  have hs0 : W0.heap.size = w.heap.size + 1 := by rw [hW0]; simp
  have hx1 : Bw (W0.alloc (.cells #[] 3)) w.heap.size [p0, p1, p2, p3, p4, p5, p6] [q0, q1, q2, q3, q4, q5, q6] := (Below.heap_alloc W0 _ _ hx0.lt).trans hx0
  have hl1 := ldW0 hx1 rfl
  have HX1 := Lib.hid hx1
  have HB1 := Lib.hid (hb0.alloc (by omega) (.cells #[] 3))
  rw [hW0] at hl1
  clear hx0 hb0 hx1 hn hl7 hl3
  go_enter Try.func75, Try.ntmps75
  go_wp2_with fail
  rw [← hW0]
  clear hl1 hW0
  generalize hB : w.heap.size = B at *
  have HB := Lib.hid hB
  clear hB
  have hsz : (W0.alloc (.cells #[] 3)).heap.size = B + 2 := by simp [hs0]
  refine (HLI.out _).mono ?_
  rintro e w2 ⟨v, rfl, ho, hb2⟩
  obtain ⟨g, cap, rfl, hgB, hgs, hnc, hcm, hcs⟩ := ownHead ho (by rw [← HN.out]; omega)
  rw [hsz] at hgB
  rw [← HN.out] at hnc hcs ⊢
  have HX2 := Lib.hid (HX1.out.below hb2 (by rw [hsz]; omega))
  have HB2 : Hid (Below B w w2) := HB1.out.trans (hb2.mono (by rw [hsz]; omega))
  have HCS := Lib.hid hcs
  have hs2 : B + 2 ≤ w2.heap.size := by have := hb2.size; rw [hsz] at this; exact this
  have HR0 : Hid (RowE w2 w2.heap.size (B + 1) (.slice (some ⟨B + 1, 0, none⟩) 0 0) (C.take 0)) := .inl ⟨by simp, rfl⟩
  clear ho hb2 hcs HX1 HB1 HLI hsz hs0
  generalize hD : w2.heap.size = D at *
  have HD := Lib.hid hD
  clear hD
  try rw [hs0]
  go_wp2
  go_loopw [3, 11] (fun v i wr => ∃ k : Nat, k ≤ n ∧ i = .int .i64 k ∧ Hid (RowE wr D (B + 1) v (C.take k)) ∧ Hid (Below D w2 wr)) (fun _ i _ => n - (intOf i).toNat)
  case atStart => exact ⟨0, Nat.zero_le _, rfl, HR0, by rw [← HD.out]; exact Below.refl _ _⟩
  case round =>
    obtain ⟨k, hk, rfl, hrow, hbl⟩ := hrel
    clear HR0
    have hsD : ∀ V, Below D w2 V → D ≤ V.heap.size := fun V hV => by rw [← HD.out]; exact hV.size
    have hwD : D ≤ wr.heap.size := hsD _ hbl.out
    by_cases hlt : k < n
    · have hc : wr.cell? ⟨g, k, none⟩ = some (.int .i64 (l0.getD k 0)) := (hbl.out.cell (p := ⟨g, k, none⟩) (by omega)).trans (HCS.out k hlt)
      have hx := HX2.out.below hbl.out (by omega)
      have HX : Hid (Bw wr.drew B [p0, p1, p2, p3, p4, p5, p6] [q0, q1, q2, q3, q4, q5, q6]) := hx
      have e1 := ldW0 (w := wr.drew) hx rfl
      have e2 := ldW1 (w := wr.drew) hx rfl rfl
      have HN1 := Lib.hid (HNX.out k hlt)
      have HS1 := Lib.hid (HST.out k hlt)
      have HSK := Lib.hid (HSN.out k hlt)
      have HLN : Hid ((C.take k).length ≤ 3000) := by rw [Hid, List.length_take]; omega
      have HRD := Lib.hid (hrow.out.keep (Below.refl wr.heap.size wr).drew)
      have HBD := Lib.hid (hbl.out.drew)
      clear hx hrow hbl
      generalize l0.getD k 0 = x at *
      generalize l0.getD ((k + 1) % n) 0 = y at *
      generalize stepsI l1 x y = st at *
      go_wp2_with fail
      go_region_with (first
        | (go_at_call 58; refine (HS1.out _).mono ?_; rintro e w6 ⟨rfl, hb6⟩; obtain ⟨v', w7, hrun, ho7, hb7⟩ := rowE_run (HRD5.out.keep hb6) (Nat.le_trans (hsD _ HBD5.out) hb6.size) HLN.out st; have HO7 := Lib.hid ho7; have HB7 := Lib.hid ((HBD5.out.trans (hb6.mono (hsD _ HBD5.out))).trans hb7); clear ho7 hb7 hb6)
        | (go_at_call 91; refine (HN1.out _).mono ?_; rintro e w5 ⟨rfl, hb5⟩; have e3 := ldW1 (HX.out.below hb5 HX.out.lt) rfl rfl; have HRD5 := Lib.hid (HRD.out.keep hb5); have HBD5 := Lib.hid (HBD.out.trans (hb5.mono hwD)); clear hb5))
      all_goals
        rw [HSK.out] at HO7
        clear hc e1 e2 e3 hrun
        go_wp2
        go_roundw
        case rel => exact ⟨k + 1, by omega, by go_num, Lib.hid (.inr HO7.out), HB7⟩
        case measure => simp [intOf]; omega
    · obtain rfl : k = n := by omega
      go_wp2
      go_ret
      refine ⟨_, rfl, ?_, by rw [HB.out]; exact HB2.out.trans (hbl.out.mono (by omega))⟩
      rw [HB.out]
      have hh := hrow.out
      rw [List.take_of_length_le (by have := HPL.out; omega)] at hh
      rcases hh with ⟨hh, _⟩ | hh
      · exfalso; have := HPL.out; rw [hh] at this; simp at this; omega
      · exact own_less hh (by omega)

theorem stepN_bd6 (l0 l1 : List Int) (h : W2 l0 l1) (i : Nat) : 0 ≤ stepN l0 l1 i ∧ stepN l0 l1 i ≤ 6 := by
  have h1 := stepN_bd l0 l1 (by have := h.t1.1; omega) i
  have h2 := h.t1.2.1
  omega

attribute [local go_sem ↓] ldR_fold ldW_fold in
set_option maxRecDepth 10000 in
set_option maxHeartbeats 2000000 in
theorem turns_any (l0 l1 : List Int) (w : World) (h : W2 l0 l1) :
    Calls Try.prog 65 #[agw (padR l0) (padR l1)] w fun e w' => e = .returned (.int .i64 (windL l0 l1)) ∧ Below w.heap.size w w' := by
  have hl7 := h.t0.2.1
  have hl3 := h.t0.1
  obtain ⟨n, hn⟩ : ∃ n, n = l0.length := ⟨_, rfl⟩
  have HPA := Lib.hid (fun W => path_any l0 l1 W h)
  have HSZ := Lib.hid (fun W => size_any l0 W hl7 h.t0.pos)
  have HPL : Hid ((pathL l0 l1).length = n) := by rw [Hid, pathL_length, hn]
  have HWD : Hid (windL l0 l1 = sumN (fun i => (pathL l0 l1).getD i 0) n / (n : Int)) := by rw [Hid, windL, ← windL_sum, ← hn]
  have HBD : Hid (∀ i, i < n → 0 ≤ (pathL l0 l1).getD i 0 ∧ (pathL l0 l1).getD i 0 ≤ 6) := fun i hi => by
    rw [pathL_get l0 l1 i (by omega)]
    exact stepN_bd6 l0 l1 h i
  have h70 := padR_length l0 hl7
  have h71 := padR_length l1 (by have := h.len; omega)
  rw [HWD.out]
  rw [← hn] at HSZ
  unfold agp at HSZ
  have hn3 : 3 ≤ n := by omega
  have hn7 : n ≤ 7 := by omega
  clear h hn HWD hl7 hl3
  generalize padR l0 = P0 at *
  generalize padR l1 = P1 at *
  generalize pathL l0 l1 = C at *
  obtain ⟨p0, p1, p2, p3, p4, p5, p6, rfl⟩ := seven h70
  obtain ⟨q0, q1, q2, q3, q4, q5, q6, rfl⟩ := seven h71
  obtain ⟨W0, hW0⟩ : ∃ W, W = w.alloc (.cells (ints [p0, p1, p2, p3, p4, p5, p6, q0, q1, q2, q3, q4, q5, q6]).toArray 69) := ⟨_, rfl⟩
  have hx0 : Bw W0 w.heap.size [p0, p1, p2, p3, p4, p5, p6] [q0, q1, q2, q3, q4, q5, q6] := by rw [hW0]; exact heap_alloc_new w _
  have hb0 : Below w.heap.size w W0 := by rw [hW0]; exact (Below.refl _ _).alloc (Nat.le_refl _) _
  have hs0 : W0.heap.size = w.heap.size + 1 := by rw [hW0]; simp
  have hl1 := ldW_run hx0 rfl rfl
  have HX0 := Lib.hid hx0
  have HB0 := Lib.hid hb0
  rw [hW0] at hl1
  clear hx0 hb0
  go_enter Try.func65, Try.ntmps65
  go_wp2_with fail
  rw [← hW0]
  clear hl1 hW0
  generalize hB : w.heap.size = B at *
  have HB := Lib.hid hB
  clear hB
  refine (HPA.out _).mono ?_
  rintro e w2 ⟨v, rfl, ho, hb2⟩
  obtain ⟨g, cap, rfl, hgB, hgs, hnc, hcm, hcs⟩ := ownHead ho (by rw [HPL.out]; omega)
  rw [HPL.out] at hnc hcs ⊢
  have hx2 := HX0.out.below hb2 (by omega)
  have HX2 := Lib.hid hx2
  have HB2 : Hid (Below B w w2) := HB0.out.trans (hb2.mono (by omega))
  have HCS := Lib.hid hcs
  have e1 := ldW0 hx2 rfl
  clear ho hb2 hcs HX0 HB0 HPA hs0 hx2
  go_wp2
  go_loopw [3, 9] (fun s i wr => ∃ k : Nat, k ≤ n ∧ s = .int .i64 (sumN (fun i => C.getD i 0) k) ∧ i = .int .i64 k ∧ wr = w2) (fun _ i _ => n - (intOf i).toNat)
  case atStart => exact ⟨0, Nat.zero_le _, rfl, rfl, rfl⟩
  case round =>
    obtain ⟨k, hk, rfl, rfl, rfl⟩ := hrel
    by_cases hlt : k < n
    · have hc := HCS.out k hlt
      have hs := sumN_bd k (fun i (hi : i < k) => HBD.out i (by omega))
      have hx := HBD.out k hlt
      have HS : Hid (sumN (fun i => C.getD i 0) k + C.getD k 0 = sumN (fun i => C.getD i 0) (k + 1)) := rfl
      generalize sumN (fun i => C.getD i 0) k = s at *
      generalize C.getD k 0 = x at hc hx HS
      clear e1
      go_wp2
      go_roundw
      case rel => exact ⟨k + 1, by omega, by rw [← HS.out], by go_num, by simp⟩
      case measure => simp [intOf]; omega
    · obtain rfl : k = n := by omega
      have hs := sumN_bd k (fun i (hi : i < k) => HBD.out i hi)
      generalize hS : sumN (fun i => C.getD i 0) k = s at *
      have HSS := Lib.hid hS
      clear hS
      have hs0 : 0 ≤ s := by omega
      have hq : Int.tdiv s (k : Int) = s / (k : Int) := Int.tdiv_eq_ediv_of_nonneg hs0
      have hq0 : 0 ≤ s / (k : Int) := Int.ediv_nonneg hs0 (by omega)
      have hq1 : s / (k : Int) ≤ s := Int.ediv_le_self _ hs0
      have hw : wrap64 (s / (k : Int)) = s / (k : Int) := IntWalk.wrap64_in _ (by omega)
      go_wp2_with fail
      refine (HSZ.out _).mono ?_
      rintro e w3 ⟨rfl, hw3⟩
      have HB3 : Hid (Below B w w3) := by rw [hw3]; exact HB2.out.alloc (by have := HX2.out.lt; omega) _
      clear hw3
      go_wp2
      go_ret
      exact ⟨by rw [HSS.out]; rfl, by rw [HB.out]; exact HB3.out⟩

attribute [local go_sem ↓] ldR_fold in
set_option maxRecDepth 10000 in
set_option maxHeartbeats 2000000 in
theorem falls_any (l0 : List Int) (w : World) (h : Tell l0) :
    Calls Try.prog 60 #[agp l0] w fun e w' => e = .returned (.int .i64 (fallsL l0)) ∧ Below w.heap.size w w' := by
  have hl7 := h.2.1
  have hl3 := h.1
  obtain ⟨n, hn⟩ : ∃ n, n = l0.length := ⟨_, rfl⟩
  have HLI := Lib.hid (fun W => list_any l0 W (by omega) hl7 h.pos)
  have HNX := Lib.hid (fun (i : Nat) (hi : i < n) W => by
    have := next_any l0 (l0.getD i 0) W (by omega) hl7 h.pos (getD_mem _ _ (by omega))
    rw [next_is h.2.2.2 (by omega), ← hn] at this
    exact this)
  have HFD : Hid (∀ k, fallsN l0 k = if l0.getD ((k + 1) % n) 0 < l0.getD k 0 then 1 else 0) := fun k => by rw [fallsN, hn]
  have HFL : Hid (fallsL l0 = sumN (fallsN l0) n) := by rw [Hid, fallsL, hn]
  have HBD := Lib.hid (fallsN_bd l0)
  have h70 := padR_length l0 hl7
  have HN := Lib.hid hn
  rw [HFL.out]
  unfold agp at HLI HNX ⊢
  have hn3 : 3 ≤ n := by omega
  have hn7 : n ≤ 7 := by omega
  clear h hn HFL hl7 hl3
  generalize padR l0 = P0 at *
  obtain ⟨p0, p1, p2, p3, p4, p5, p6, rfl⟩ := seven h70
  obtain ⟨W0, hW0⟩ : ∃ W, W = w.alloc (.cells (ints [p0, p1, p2, p3, p4, p5, p6]).toArray 52) := ⟨_, rfl⟩
  have hx0 : Arr W0 w.heap.size [p0, p1, p2, p3, p4, p5, p6] := by rw [hW0]; exact heap_alloc_new w _
  have hb0 : Below w.heap.size w W0 := by rw [hW0]; exact (Below.refl _ _).alloc (Nat.le_refl _) _
  have hs0 : W0.heap.size = w.heap.size + 1 := by rw [hW0]; simp
  have hl1 := ldR_run hx0 rfl
  have HX0 := Lib.hid hx0
  have HB0 := Lib.hid hb0
  rw [hW0] at hl1
  clear hx0 hb0
  go_enter Try.func60, Try.ntmps60
  go_wp2_with fail
  rw [← hW0]
  clear hl1 hW0
  generalize hB : w.heap.size = B at *
  have HB := Lib.hid hB
  clear hB
  refine (HLI.out _).mono ?_
  rintro e w2 ⟨v, rfl, ho, hb2⟩
  obtain ⟨g, cap, rfl, hgB, hgs, hnc, hcm, hcs⟩ := ownHead ho (by rw [← HN.out]; omega)
  rw [← HN.out] at hnc hcs ⊢
  have HX2 := Lib.hid (HX0.out.below hb2 (by omega))
  have HB2 : Hid (Below B w w2) := HB0.out.trans (hb2.mono (by omega))
  have HCS := Lib.hid hcs
  have hs2 : B + 1 ≤ w2.heap.size := by have := hb2.size; omega
  clear ho hb2 hcs HX0 HB0 HLI hs0
  generalize hD : w2.heap.size = D at *
  have HD := Lib.hid hD
  clear hD
  go_wp2
  go_loopw [3, 9] (fun s i wr => ∃ k : Nat, k ≤ n ∧ s = .int .i64 (sumN (fallsN l0) k) ∧ i = .int .i64 k ∧ Hid (Below D w2 wr)) (fun _ i _ => n - (intOf i).toNat)
  case atStart => exact ⟨0, Nat.zero_le _, rfl, rfl, by rw [← HD.out]; exact Below.refl _ _⟩
  case round =>
    obtain ⟨k, hk, rfl, rfl, hbl⟩ := hrel
    by_cases hlt : k < n
    · have hc : wr.cell? ⟨g, k, none⟩ = some (.int .i64 (l0.getD k 0)) := (hbl.out.cell (p := ⟨g, k, none⟩) (by omega)).trans (HCS.out k hlt)
      have hx := HX2.out.below hbl.out (by omega)
      have e1 := ldR_run hx rfl
      have HN1 := Lib.hid (HNX.out k hlt)
      have hs := sumN_bd k (fun i (_ : i < k) => HBD.out i)
      have HF := Lib.hid (HFD.out k)
      have HS : Hid (sumN (fallsN l0) k + fallsN l0 k = sumN (fallsN l0) (k + 1)) := rfl
      have hDw : D ≤ wr.heap.size := by rw [← HD.out]; exact hbl.out.size
      clear hx
      generalize sumN (fallsN l0) k = s at *
      generalize fallsN l0 k = f at *
      generalize l0.getD k 0 = x at hc HF HN1
      generalize l0.getD ((k + 1) % n) 0 = y at HF HN1
      go_wp2_with fail
      refine (HN1.out _).mono ?_
      rintro e w3 ⟨rfl, hb3⟩
      have HB3 := Lib.hid (hbl.out.trans (hb3.mono hDw))
      clear hb3 e1 hc
      by_cases hyx : y < x
      · have HF1 : Hid (f = 1) := by rw [Hid, HF.out, if_pos hyx]
        clear HF
        go_wp2
        go_roundw
        case rel => exact ⟨k + 1, by omega, by rw [← HS.out, HF1.out], by go_num, HB3⟩
        case measure => simp [intOf]; omega
      · have HF1 : Hid (f = 0) := by rw [Hid, HF.out, if_neg hyx]
        clear HF
        go_wp2
        go_roundw
        case rel => exact ⟨k + 1, by omega, by rw [← HS.out, HF1.out]; simp, by go_num, HB3⟩
        case measure => simp [intOf]; omega
    · obtain rfl : k = n := by omega
      go_wp2
      go_ret
      exact ⟨rfl, by rw [HB.out]; exact HB2.out.trans (hbl.out.mono (by omega))⟩
end Go.Proofs.Ytbfdbnminjhocaa
