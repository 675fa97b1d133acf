/- The rings on which all partings of a row part: the program. -/
import Derived.Test.YtamnacgclhaggabVal
import Derived.Test.YtamnacgclhaggabPR
import Derived.WalkMore
import Derived.Lib.AppendZeros
import Derived.ArgAppend
namespace Go.Proofs.Ytamnacgclhaggab
open Go.ChangeShapes Go.WideShapes Go.ChangeAt Go.RowKit Go.Shelf

attribute [local go_sem] Oper.semAt_some

abbrev mkD (D : Nat) : Deferred := { target := .collected D, args := #[] }
theorem mkD_inj : ∀ ks js : List Nat, ks.map mkD = js.map mkD → ks = js
  | [], [], _ => rfl
  | [], _ :: _, h => by cases h
  | _ :: _, [], h => by cases h
  | k :: ks, j :: js, h => by
    rw [List.map_cons, List.map_cons] at h
    injection h with h1 h2
    injection h1 with h3 _
    injection h3 with h4
    rw [h4, mkD_inj ks js h2]
/-- What a frame has to take on its way out: blocks for rounds' deferred calls, none of them with any. -/
def Marks (b : Nat) (w : World) (Ds : List Deferred) : Prop := ∃ ks : List Nat, Ds = ks.map mkD ∧ ks.Nodup ∧ ∀ D ∈ ks, b ≤ D ∧ w.heap[D]? = some (.deferred (some []))
theorem Marks.nil (b : Nat) (w : World) : Marks b w [] := ⟨[], rfl, List.nodup_nil, fun D h => absurd h (by simp)⟩
theorem Marks.keep {b : Nat} {w w' : World} {Ds : List Deferred} (h : Marks b w Ds) (hk : ∀ D : Nat, w.heap[D]? = some (.deferred (some [])) → w'.heap[D]? = w.heap[D]?) : Marks b w' Ds := by
  obtain ⟨ks, h1, h2, h3⟩ := h
  exact ⟨ks, h1, h2, fun D hD => ⟨(h3 D hD).1, (hk D (h3 D hD).2).trans (h3 D hD).2⟩⟩
theorem Marks.below {b : Nat} {w w' : World} {Ds : List Deferred} (h : Marks b w Ds) (hb : Below w.heap.size w w') : Marks b w' Ds :=
  h.keep fun D hD => hb.block D (Array.getElem?_eq_some_iff.1 hD).1
theorem Marks.cons {b : Nat} {w w' : World} {Ds : List Deferred} {D : Nat} (h : Marks b w Ds) (hb : Below w.heap.size w w') (hD : w.heap.size ≤ D) (hbD : b ≤ D) (hK : w'.heap[D]? = some (.deferred (some []))) : Marks b w' (mkD D :: Ds) := by
  obtain ⟨ks, h1, h2, h3⟩ := h.below hb
  obtain ⟨js, g1, g2, g3⟩ := h
  have e : js = ks := by
    have := g1.symm.trans h1
    exact mkD_inj _ _ this
  subst e
  refine ⟨D :: js, by rw [h1]; rfl, List.nodup_cons.2 ⟨fun hm => ?_, h2⟩, fun E hE => ?_⟩
  · have := (Array.getElem?_eq_some_iff.1 (g3 D hm).2).1
    omega
  · rcases List.mem_cons.1 hE with rfl | hE
    · exact ⟨hbD, hK⟩
    · exact h3 E hE
theorem marks_leave {fn : Func} {tmps : Array Value} {R : Ending → World → Prop} {b : Nat} (Rk : World → Prop) (hR : ∀ w, Rk w → ∃ v, (results fn tmps).run Try.prog w = .ok v w ∧ R (.returned v) w)
    (hk : ∀ (w : World) (D : Nat), Rk w → b ≤ D → w.heap[D]? = some (.deferred (some [])) → Rk (w.putObj D (.deferred none))) :
    ∀ (Ds : List Deferred) (w : World), Marks b w Ds → Rk w → LeavesInM Fence.wide 3 Try.prog fn tmps R Ds .returning w := by
  intro Ds
  induction Ds with
  | nil => intro w _ h; exact hR w h
  | cons d Ds ih =>
    rintro w ⟨ks, h1, h2, h3⟩ h
    cases ks with
    | nil => cases h1
    | cons D ks =>
      injection h1 with e1 e2
      subst e1
      have hD := h3 D (by simp)
      refine ⟨by simp, .inl ⟨D, _, rfl, run_takeDeferred hD.2, ih _ ⟨ks, e2, (List.nodup_cons.1 h2).2, fun E hE => ⟨(h3 E (by simp [hE])).1, ?_⟩⟩ (hk w D h hD.1 hD.2)⟩⟩
      refine (World.putObj_heap_other (fun e => ?_)).trans (h3 E (by simp [hE])).2
      subst e
      exact (List.nodup_cons.1 h2).1 hE

def prL (n : Nat) (M : List (List Int)) : List (List Int) := (ringsL n).filter fun l => M.all (partB l)
abbrev ParN (n : Nat) := { p : List Int // Four (n : Int) p }
theorem rowK_pad (M : List (List Int)) (k : Nat) (h : k < M.length) : rowK (padM M) k = padR (rowK M k) := by simp [rowK, padM, List.getD, h]
theorem pr_step (M : List (List Int)) (q : List Int → Bool) (k : Nat) (h : k < M.length) : padM ((M.take (k + 1)).filter q) = padM ((M.take k).filter q) ++ (if q (rowK M k) then [padR (rowK M k)] else []) := by
  have e : M.take (k + 1) = M.take k ++ [rowK M k] := by
    rw [List.take_succ_eq_append_getElem h]
    simp [rowK, List.getD, h]
  rw [e, List.filter_append]
  unfold padM
  rw [List.map_append]
  generalize rowK M k = r
  congr 1
  cases hq : q r <;> simp [hq]

/-- What has come: nothing yet, or a row in blocks behind n1. -/
def St (b n1 : Nat) (w : World) (v : Value) (R : List (List Int)) : Prop :=
  (R = [] ∧ v = .slice (some ⟨b, 0, none⟩) 0 0 ∧ w.heap[b]? = some (.cells #[] 50 (0, 0))) ∨ RowN w n1 50 7 v R
section
variable {b n1 : Nat} {w w' : World} {v : Value} {R : List (List Int)}
theorem St.keep (h : St b n1 w v R) (hk : ∀ (k : Nat) (cs : Array Value) (t : TypeId) (f : Nat × Nat), w.heap[k]? = some (.cells cs t f) → w'.heap[k]? = w.heap[k]?) : St b n1 w' v R := by
  rcases h with ⟨h1, h2, h3⟩ | h
  · exact .inl ⟨h1, h2, (hk _ _ _ _ h3).trans h3⟩
  · refine .inr ⟨h.1, h.2.1, ?_⟩
    rcases h.2.2 with e | ⟨g, cap, cur, e, hb, hg, rest⟩
    · exact .inl e
    · exact .inr ⟨g, cap, cur, e, hb, (hk g _ _ _ hg).trans hg, rest⟩
theorem St.below (h : St b n1 w v R) (hb : Below w.heap.size w w') : St b n1 w' v R := h.keep fun k _ _ _ hk => hb.block k (Array.getElem?_eq_some_iff.1 hk).1
theorem St.row (h : St b n1 w v R) (hbn : b ≤ n1) : RowN w b 50 7 v R := by
  rcases h with ⟨rfl, rfl, h3⟩ | h
  · exact ⟨by simp, by simp [ints], .inr ⟨b, 0, #[], rfl, Nat.le_refl _, h3, Nat.le_refl _, by decide, by simp, by simp [ints]⟩⟩
  · exact h.less hbn
theorem St.run (h : St b n1 w v R) (P : List Int) (hP : P.length = 7) (hn : n1 ≤ w.heap.size) (hl : R.length ≤ 3000) :
    ∃ v' w', (∀ ty, (Builtin.append_ #[70, 70] ty #[v, .slice (some ⟨w.heap.size, 0, none⟩) 1 1]).run Try.prog (w.alloc (.cells (ints P).toArray 50)) = .ok v' w') ∧ RowN w' n1 50 7 v' (R ++ [P]) ∧ Below n1 w w' ∧
      ∀ (j : Nat) (o : Obj), w.heap[j]? = some o → o.isCells = false → w'.heap[j]? = some o := by
  obtain ⟨i0, hi, hz0, hz1, hz2⟩ := info_parts ring_info
  have hba : Below w.heap.size w (w.alloc (.cells (ints P).toArray 50)) := (Below.refl _ _).alloc (Nat.le_refl _) _
  have hnews := World.news_of_block (heap_alloc_new w (.cells (ints P).toArray 50))
  have h7 : ∀ l ∈ [P], l.length = 7 := fun l hl => by rw [List.mem_singleton.1 hl, hP]
  rcases h with ⟨rfl, rfl, h3⟩ | h
  · obtain ⟨v', w', hrun, hown, hgr⟩ := run_append_arg_grows (P := Try.prog) (w.alloc (.cells (ints P).toArray 50)) 70 0 50 i0 (.agg #[.int .i64 0, .int .i64 0, .int .i64 0, .int .i64 0, .int .i64 0, .int .i64 0, .int .i64 0]) 7 56 Try.underlying70 hi hz0 hz1 hz2 rfl (by decide) ⟨b, 0, none⟩ 0 0 [] (by simp) (by simp) ⟨w.heap.size, 0, none⟩ 1 1 (ints P) (by simp [hP]) (by simpa using hnews) (by omega) (by unfold maxLen; omega) (by omega)
    have hb6 : Below w.heap.size w w' := hba.grown hgr (by simp) (by simp)
    have hrw : RowN w' (w.alloc (.cells (ints P).toArray 50)).heap.size 50 7 v' [P] := ⟨h7, by simpa [ints] using hown⟩
    exact ⟨v', w', fun ty => hrun, hrw.less (by simp; omega), hb6.mono hn, fun j o ho _ => (hb6.block j (Array.getElem?_eq_some_iff.1 ho).1).trans ho⟩
  · obtain ⟨v', w', hrun, hown, hgr, _⟩ := run_append_own (P := Try.prog) (w.alloc (.cells (ints P).toArray 50)) n1 70 0 50 i0 (.agg #[.int .i64 0, .int .i64 0, .int .i64 0, .int .i64 0, .int .i64 0, .int .i64 0, .int .i64 0]) 7 56 Try.underlying70 hi hz0 hz1 hz2 rfl (by decide) v R.length _ ((h.alloc _).2) ⟨w.heap.size, 0, none⟩ 1 1 (ints P) (by simp [hP]) (by simpa using hnews) (ints_oneCell _) (by unfold maxLen; omega) (by omega) (by simp; omega)
    refine ⟨v', w', fun ty => hrun, rowN_snoc h hP hown, (hba.mono hn).grown hgr (by simp; omega) (fun k hk => (h.2.lt k hk).1), fun j o ho hc => ?_⟩
    have hj := (Array.getElem?_eq_some_iff.1 ho).1
    refine (hgr.block j (by simp; omega) (fun e => ?_)).trans ((hba.block j hj).trans ho)
    rcases h.2.2 with ⟨e1, _⟩ | ⟨g, cap, cur, e1, _, hg, _⟩
    · rw [e1] at e; cases e
    · rw [e1] at e
      have e2 : j = g := by simpa [Value.ownBlock] using e
      subst e2
      rw [ho] at hg
      injection hg with hg
      rw [hg] at hc
      simp [Obj.isCells] at hc
end

set_option maxRecDepth 100000 in
set_option maxHeartbeats 4000000 in
theorem parted_any (n : Nat) (h4 : 4 ≤ n) (h6 : n ≤ 6) (L : List (ParN n)) (hlen : L.length ≤ 20) (vb B0 : Nat) (v : Value) (w : World) (hvb : vb < w.heap.size) (hP : w.cell? ⟨vb, 0, none⟩ = some v) (hrow : RowN w B0 59 4 v (L.map (·.1))) (hrl : ∀ i, v.ownBlock = some i → i < w.heap.size) :
    Calls Try.prog 62 #[.int .i64 (n : Int), .func (.func 133) #[] #[.pointer (some ⟨vb, 0, none⟩)]] w fun e w' => ∃ u, e = .returned u ∧ RowN w' w.heap.size 50 7 u (padM (prL n (L.map (·.1)))) ∧ Below w.heap.size w w' := by
  obtain ⟨i0, hi, hz0, hz1, hz2⟩ := info_parts ring_info
  have HV := Lib.hid (fun (V : World) (hb : Below w.heap.size w V) => (⟨(hb.cell (p := ⟨vb, 0, none⟩) hvb).trans hP, hrow.same (fun k hk => hb.block k (hrl k hk))⟩ : V.cell? ⟨vb, 0, none⟩ = some v ∧ RowN V B0 59 4 v (L.map (·.1))))
  have HRL := Lib.hid hrl
  have HIS := Lib.hid (ringsL_is n (by omega) h6)
  have hrl7 : (ringsL n).length ≤ 720 := by rw [ringsL_length]; exact (facM_eq n (by omega) h6).2.1
  have HAR := Lib.hid (fun V => allRings_any n V (by omega) h6)
  have hb0 : Below w.heap.size w (w.alloc (.cells #[] 50)) := (Below.refl _ _).alloc (Nat.le_refl _) _
  have HE0 : Hid ((w.alloc (.cells #[] 50)).heap[w.heap.size]? = some (.cells #[] 50 (0, 0))) := heap_alloc_new w _
  have hs0 : w.heap.size < (w.alloc (.cells #[] 50)).heap.size := by simp
  clear hP hrow hrl
  obtain ⟨q, hq⟩ : ∃ q : List Int → Bool, q = fun l => (L.map (·.1)).all (partB l) := ⟨_, rfl⟩
  have HQ := Lib.hid hq
  have HPR : Hid (prL n (L.map (·.1)) = (ringsL n).filter q) := by rw [Hid, prL, hq]
  rw [HPR.out]
  clear hq
  refine callsIn_wide.1 (callsIn_of_wp_marks (n := 3) Try.func62 rfl trivial ?_ rfl)
  refine wpIn_wide.2 ?_
  simp only [Try.ntmps62, List.size_toArray, List.length_cons, List.length_nil, Nat.reduceAdd, Nat.reduceSub, Array.replicate_succ, Array.replicate_zero, List.push_toArray, List.append_toArray, List.nil_append, List.cons_append]
  go_wp2_with fail
  go_step3
  go_wp2_with fail
  go_step3
  go_wp2_with fail
  generalize w.alloc (.cells #[] 50) = W0 at *
  refine (HAR.out W0).mono ?_
  rintro e w2 ⟨va, rfl, hall, hb2⟩
  obtain ⟨Aa, ca, e⟩ := hall.slice
  subst e
  have HB2 := Lib.hid (hb0.trans (hb2.mono hb0.size))
  have HE2 := Lib.hid ((hb2.block _ hs0).trans HE0.out)
  obtain ⟨n1, hn1⟩ : ∃ n1, n1 = w2.heap.size := ⟨_, rfl⟩
  have HN1 := Lib.hid hn1
  have hwn : w.heap.size ≤ n1 := by rw [hn1]; exact HB2.out.size
  have HAB := Lib.hid (fun i (hi : (Value.slice Aa (padM (ringsL n)).length ca).ownBlock = some i) => (show i < n1 by rw [hn1]; exact (hall.lt i hi).2))
  have HALL := Lib.hid hall
  have hpm : (padM (ringsL n)).length = (ringsL n).length := by simp [padM]
  rw [hpm] at HALL
  rw [hpm]
  obtain ⟨M, hM⟩ : ∃ M, M = (ringsL n).length := ⟨_, rfl⟩
  have HM := Lib.hid hM
  rw [← hM] at HALL hrl7
  rw [← hM]
  clear hall hb2 hb0 HE0 HAR hpm hM hs0 hn1
  go_wp2
  refine wp_loop (fun a' w' => ∃ (k : Nat) (v' : Value) (Ds : List Deferred) (u7 u14 u15 u16 u17 u23 u24 u25 u26 u27 : Value), k ≤ M ∧ a' = { tmps := #[.int .i64 (n : Int), .func (.func 133) #[] #[.pointer (some ⟨vb, 0, none⟩)], undef, undef, .slice none 0 0, v', undef, u7, undef, .slice (some ⟨w.heap.size, 0, none⟩) 0 0, .int .i64 (n : Int), .slice Aa M ca, .int .i64 (M : Int), .int .i64 (k : Int), u14, u15, u16, u17, undef, undef, undef, undef, undef, u23, u24, u25, u26, u27, undef], defers := Ds } ∧ Hid (St w.heap.size n1 w' v' (padM (((ringsL n).take k).filter q))) ∧ Hid (RowN w' W0.heap.size 50 7 (.slice Aa M ca) (padM (ringsL n)) ∧ n1 ≤ w'.heap.size) ∧ Hid (Marks w.heap.size w' Ds) ∧ Hid (Below w.heap.size w w')) (fun a' _ => M - (intOf (a'.tmps.getD 13 undef)).toNat) ?start ?round
  case start => exact ⟨0, _, [], undef, undef, undef, undef, undef, undef, undef, undef, undef, undef, Nat.zero_le _, rfl, Lib.hid (.inl ⟨by simp [padM], rfl, HE2.out⟩), Lib.hid ⟨HALL.out, by rw [HN1.out]; exact Nat.le_refl _⟩, Lib.hid (Marks.nil _ _), HB2⟩
  case round =>
    rintro a' wr ⟨k, v', Ds, u7, u14, u15, u16, u17, u23, u24, u25, u26, u27, hk, rfl, hv, hal, hmk, hbl⟩
    clear HE2 HALL HB2
    by_cases hlt : k < M
    · have hkr : k < (ringsL n).length := by rw [← HM.out]; exact hlt
      have hkl : k < (padM (ringsL n)).length := by simpa [padM] using hkr
      obtain ⟨g, c', e0, _, hgs, _, _, _, _⟩ := hal.out.1.elem hkl
      injection e0 with e1 e2 e3
      subst e1
      clear e2 e3
      have HKL := Lib.hid hkl
      have his := HIS.out _ (rowK_mem hkr)
      have ht := his.tell (by omega) (by omega)
      have HPAD := Lib.hid (rowK_pad _ _ hkr)
      have HSTEP := Lib.hid (pr_step _ q k hkr)
      obtain ⟨l, hl⟩ : ∃ l, l = rowK (ringsL n) k := ⟨_, rfl⟩
      rw [← hl] at his ht HPAD HSTEP
      have H7 := Lib.hid (padR_length l ht.2.1)
      have HTL := Lib.hid ht
      have HIL := Lib.hid his
      have HNT := Lib.hid (new_ring wr)
      have HAA := Lib.hid hal.out.1
      clear hl hkl hkr his ht
      go_wp2_with (first
        | (refine load_elem rfl _ 50 rfl _ rfl Try.underlying50 g M ca W0.heap.size k 7 (padM (ringsL n)) HAA HKL.out ring_size rfl ?_; rw [HPAD.out])
        | (refine store_ring rfl _ _ rfl wr.heap.size zero7 (padR l) rfl H7.out rfl rfl HNT ?_; intro w6 HA6 hg6 hs6))
      have hbr : Below wr.heap.size wr w6 := ((Below.refl _ _).alloc (Nat.le_refl _) _).grown hg6 (by simp) (by simp)
      have hwr : w.heap.size ≤ wr.heap.size := hbl.out.size
      have HBW := Lib.hid (hbl.out.trans (hbr.mono hwr))
      have HV6 := Lib.hid (hv.out.below hbr)
      have HAL6 := Lib.hid (HAA.out.below hbr (fun i hi => (HAA.out.lt i hi).2))
      have hn6 : n1 ≤ w6.heap.size := Nat.le_trans hal.out.2 hbr.size
      have HMK6 := Lib.hid (hmk.out.below hbr)
      have hr6 := HA6.out.lt
      have HVF := HV.out w6 HBW.out
      have hvb6 : vb < w6.heap.size := Nat.lt_of_lt_of_le hvb HBW.out.size
      have HST := Lib.hid (fun m => val_stops (α := ParN n) (·.1) (fun x => x.2.1) m vb B0 L v w6 hvb6 HVF.1 HVF.2 hlen)
      clear HVF hvb6 hg6 hs6 HNT hv hal hmk hbl hbr hgs HAA
      have HO : OwnFrom w6.heap.size (fun (pre : List (ParN n)) (W : World) => (∀ x ∈ pre, partB l x.1 = true) ∧ Below w6.heap.size w6 W) :=
        OwnFrom.and (ownFrom_pure _ _) (ownFrom_below (Nat.le_refl _) (Nat.le_refl _))
      refine (wpIn_wide (n := 3)).1 (wpIn_rangeFunc_ownH rfl (by omega) (gf := 133) (lb := #[.pointer (some ⟨vb, 0, none⟩)]) rfl trivial (enters_of Try.func133 (by kernel_rfl) rfl)
        (HST.out _) (fun h k => h.trans k) (fun W l' o o' hl ho hc hw => belowK_b (w := w6) (Nat.le_refl _) W l' o o' hl ho hc hw) (Below.refl _ _) (fun _ => rfl)
        (fun pre W => (∀ x ∈ pre, partB l x.1 = true) ∧ Below w6.heap.size w6 W)
        (fun c pre W => (c = .exit 1 ∧ ∃ x ∈ pre, partB l x.1 = false) ∧ Below w6.heap.size w6 W)
        HO
        (fun c => OwnFrom.and (ownFrom_pure _ _) (ownFrom_below (Nat.le_refl _) (Nat.le_refl _)))
        ⟨fun x hx => absurd hx (by simp), Below.refl _ _⟩
        (fun x a' W => ∃ g8, w6.heap.size ≤ g8 ∧ a' = { tmps := #[.int .i64 (n : Int), .func (.func 133) #[] #[.pointer (some ⟨vb, 0, none⟩)], undef, undef, .slice none 0 0, v', undef, .pointer (some ⟨wr.heap.size, 0, none⟩), .pointer (some ⟨g8, 0, none⟩), .slice (some ⟨w.heap.size, 0, none⟩) 0 0, .int .i64 (n : Int), .slice (some ⟨g, 0, none⟩) M ca, .int .i64 (M : Int), .int .i64 (k : Int), .bool true, .pointer (some ⟨g, k * 7, none⟩), .agg (ints (padR l)).toArray, .func (.func 133) #[] #[.pointer (some ⟨vb, 0, none⟩)], .agg (ints x.1).toArray, undef, undef, undef, undef, u23, u24, u25, u26, u27, undef], defers := [] } ∧ Blk 59 W g8 x.1)
        (fun x a' _ A B row hs hg hr => by
          obtain ⟨g8, h1, h2, h3⟩ := hs
          refine ⟨g8, h1, h2, h3.grown hg (fun e => ?_)⟩
          obtain ⟨_, o, ho, hcl⟩ := hr g8 e.symm
          rw [h3] at ho
          injection ho with e1
          subst e1
          simp [Obj.isCells] at hcl)
        ?assign ?body ?done ?stop)
      case assign =>
        intro lq pre x V K hI hK
        have hbl := hI.2.size
        have HNP := Lib.hid (Blk.new (t := 59) V [0, 0, 0, 0])
        gi_wp2_with (refine in_store_blk rfl 59 4 readParting_size _ _ rfl V.heap.size [0, 0, 0, 0] x.1 rfl x.2.1 rfl rfl HNP ?_; intro V2 HB2 hg2 hs2)
        have hb : Below V.heap.size V V2 := ((Below.refl _ _).alloc (Nat.le_refl _) _).grown hg2 (by simp) (by simp)
        refine hK _ _ ⟨hb.size, fun k o _ hk _ => (hb.block k (Array.getElem?_eq_some_iff.1 hk).1).trans hk⟩ (hb.mono hbl) ⟨hI.1, hI.2.trans (hb.mono hbl)⟩ ⟨V.heap.size, hbl, rfl, HB2.out⟩
      case body =>
        rintro lq pre ⟨x, hx⟩ a' V _ _ ⟨hp, hB⟩ ⟨g8, hg8, rfl, hblk⟩ hlen'
        obtain ⟨p0, p1, p2, p3, rfl⟩ := of_four hx.1
        have hm : ∀ y ∈ ([p0, p1, p2, p3] : List Int), y ∈ l := fun y hy => HIL.out.2.2 y (hx.2.1 y hy).1 (hx.2.1 y hy).2
        have HC := Lib.hid (fun W => parts_any l p0 p1 p2 p3 W (by have := HTL.out.1; omega) HTL.out.2.1 HTL.out.pos (hm p0 (by simp)) (hm p1 (by simp)) (hm p2 (by simp)) (hm p3 (by simp)))
        unfold agp at HC
        have HAV : Hid (Blk 50 V wr.heap.size (padR l)) := HA6.out.below hB hr6
        have HBK := Lib.hid hblk
        have HP := Lib.hid hp
        have HBB := Lib.hid hB
        have HX := Lib.hid hx
        clear hm hp hB hblk hlen'
        cases hpt : partB l [p0, p1, p2, p3] with
        | true =>
          rw [hpt] at HC
          have HT := Lib.hid hpt
          clear hpt
          gi_wp2_with (first
            | (refine in_load_blk rfl 50 7 ring_size _ rfl Try.underlying50 _ rfl wr.heap.size (padR l) H7.out rfl HAV ?_)
            | (refine in_load_blk rfl 59 4 readParting_size _ rfl Try.underlying59 _ rfl g8 [p0, p1, p2, p3] rfl rfl HBK ?_)
            | (refine ⟨trivial, ?_⟩; gi_at_call 68; refine (CallsIn.inRound lq (callsIn_wide.2 (HC.out _))).mono ?_; rintro e w9 ⟨rfl, hb9⟩))
          refine ⟨⟨hb9.size, fun k o _ hk _ => (hb9.block k (Array.getElem?_eq_some_iff.1 hk).1).trans hk⟩, hb9.mono HBB.out.size, ⟨fun y hy => ?_, HBB.out.trans (hb9.mono HBB.out.size)⟩⟩
          rcases List.mem_append.1 hy with h1 | h1
          · exact HP.out y h1
          · rw [List.mem_singleton.1 h1]; exact HT.out
        | false =>
          rw [hpt] at HC
          have HT := Lib.hid hpt
          clear hpt
          gi_wp2_with (first
            | (refine in_load_blk rfl 50 7 ring_size _ rfl Try.underlying50 _ rfl wr.heap.size (padR l) H7.out rfl HAV ?_)
            | (refine in_load_blk rfl 59 4 readParting_size _ rfl Try.underlying59 _ rfl g8 [p0, p1, p2, p3] rfl rfl HBK ?_)
            | (refine ⟨trivial, ?_⟩; gi_at_call 68; refine (CallsIn.inRound lq (callsIn_wide.2 (HC.out _))).mono ?_; rintro e w9 ⟨rfl, hb9⟩))
          exact ⟨⟨hb9.size, fun k o _ hk _ => (hb9.block k (Array.getElem?_eq_some_iff.1 hk).1).trans hk⟩, ⟨rfl, ⟨[p0, p1, p2, p3], HX.out⟩, by simp, HT.out⟩, HBB.out.trans (hb9.mono HBB.out.size)⟩
      case done =>
        rintro D ys V hD hys ⟨hp, hB⟩ hK
        have HQL : Hid (q l = true) := by
          rw [Hid, HQ.out]
          simp only [List.all_map, List.all_eq_true]
          intro x hx
          exact hp x (by rw [hys]; exact hx)
        rw [HQL.out, if_pos rfl] at HSTEP
        have HAV : Hid (Arr V wr.heap.size (padR l)) := HA6.out.below hB hr6
        have hw6 := HBW.out.size
        have HVV := Lib.hid (HV6.out.below hB)
        have HALV := Lib.hid (HAL6.out.below hB (fun i hi => (HAL6.out.lt i hi).2))
        have HMKV := Lib.hid (HMK6.out.cons hB hD (by omega) hK)
        have HBV := Lib.hid (HBW.out.trans (hB.mono hw6))
        have hVs := HBV.out.size
        have hfl : (padM (((ringsL n).take k).filter q)).length ≤ 720 := by
          unfold padM
          rw [List.length_map]
          have h1 := List.length_filter_le q ((ringsL n).take k)
          rw [List.length_take] at h1
          have h2 := HM.out
          omega
        obtain ⟨a0, a1, a2, a3, a4, a5, a6, hPd⟩ := seven H7.out
        rw [hPd] at HAV HSTEP
        obtain ⟨R, hR⟩ : ∃ R, R = padM (((ringsL n).take k).filter q) := ⟨_, rfl⟩
        rw [← hR] at HVV HSTEP hfl
        have hnV : n1 ≤ V.heap.size := Nat.le_trans hn6 hB.size
        obtain ⟨v2, w5, hrun, hrow5, hb5, hot5⟩ := HVV.out.run [a0, a1, a2, a3, a4, a5, a6] rfl hnV (by omega)
        have HROW := Lib.hid hrow5
        rw [← HSTEP.out] at HROW
        have HAL5 := Lib.hid (HALV.out.same (fun i hi => hb5.block i (HAB.out i hi)))
        have HMK5 := Lib.hid (HMKV.out.keep (fun E hE => (hot5 E _ hE rfl).trans hE.symm))
        have HB5 := Lib.hid (HBV.out.trans (hb5.mono hwn))
        have hn5 : n1 ≤ w5.heap.size := Nat.le_trans hnV hb5.size
        simp only [ints, List.map_cons, List.map_nil] at hrun
        have HRUN := Lib.hid hrun
        have HN5 := Lib.hid hn5
        have HFL := Lib.hid hfl
        clear hp hys hPd hR HO HST HPR hrow5 hot5 hrun HVV hb5 hn5 hnV hn6 hfl
        go_wp2_with (first
          | (refine load_ring rfl _ rfl wr.heap.size [a0, a1, a2, a3, a4, a5, a6] rfl rfl HAV ?_; simp only [ints, List.map_cons, List.map_nil])
          | (at_builtin; refine Lib.wpList_append_run (V.alloc (.cells #[.int .i64 a0, .int .i64 a1, .int .i64 a2, .int .i64 a3, .int .i64 a4, .int .i64 a5, .int .i64 a6] 50)) rfl (.tmp 23) (.tmp 25) 70 70 rfl v' (.slice (some ⟨V.heap.size, 0, none⟩) 1 1) rfl rfl v2 w5 (HRUN.out _) ?_))
        refine ⟨⟨k + 1, v2, mkD D :: Ds, _, _, _, _, _, _, _, _, _, _, by omega, rfl, Lib.hid (.inr HROW.out), Lib.hid ⟨HAL5.out, HN5.out⟩, HMK5, HB5⟩, ?_⟩
        simp [intOf]
        omega
      case stop =>
        rintro D c pre V hD hpre ⟨⟨rfl, y, hy, hpy⟩, hB⟩ hK
        have HQL : Hid (q l = false) := by
          rw [Hid, HQ.out]
          show (L.map (·.1)).all (partB l) = false
          rw [List.all_map, List.all_eq_false]
          exact ⟨y, hpre.subset hy, by simp [hpy]⟩
        rw [HQL.out, if_neg (by simp), List.append_nil] at HSTEP
        have hw6 := HBW.out.size
        have HVV := Lib.hid (HV6.out.below hB)
        rw [← HSTEP.out] at HVV
        have HALV := Lib.hid (HAL6.out.below hB (fun i hi => (HAL6.out.lt i hi).2))
        have HMKV := Lib.hid (HMK6.out.cons hB hD (by omega) hK)
        have HBV := Lib.hid (HBW.out.trans (hB.mono hw6))
        clear hy hpy hpre HO HST HPR
        have hnV : n1 ≤ V.heap.size := Nat.le_trans hn6 hB.size
        refine wpIn_wide.2 ?_
        go_wp2
        refine ⟨⟨k + 1, v', mkD D :: Ds, _, _, _, _, _, _, _, _, _, _, by omega, rfl, HVV, Lib.hid ⟨HALV.out, hnV⟩, HMKV, HBV⟩, ?_⟩
        simp [intOf]
        omega
    · obtain rfl : k = M := by omega
      have hv1 := hv.out.row hwn
      rw [HM.out, List.take_length] at hv1
      have HV1 := Lib.hid hv1
      clear hv1 hv hal
      go_wp2
      rw [Exit.noGoto_ret]
      exact marks_leave (fun W => RowN W w.heap.size 50 7 v' (padM ((ringsL n).filter q)) ∧ Below w.heap.size w W) (fun W h => ⟨_, results_tmp rfl _ _ _, v', rfl, h.1, h.2⟩)
        (fun W D h hD hK => ⟨h.1.same (fun i hi => World.putObj_heap_other (fun e => by
          subst e
          rcases h.1.2.2 with ⟨e1, _⟩ | ⟨g, cap, cur, e1, _, hg, _⟩
          · rw [e1] at hi; cases hi
          · rw [e1] at hi
            have e2 : i = g := by simpa [Value.ownBlock] using hi.symm
            subst e2
            rw [hg] at hK
            cases hK)), h.2.trans (belowK_b (w := w) (Nat.le_refl _) W D _ _ hD hK rfl rfl)⟩) Ds wr hmk.out ⟨HV1.out, hbl.out⟩
end Go.Proofs.Ytamnacgclhaggab
