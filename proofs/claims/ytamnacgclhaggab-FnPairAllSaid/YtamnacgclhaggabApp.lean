/- slices.AppendSeq and slices.Collect of a ring's partings. -/
import Derived.Test.YtamnacgclhaggabPmT
import Derived.RangeFuncNested
namespace Go.Proofs.Ytamnacgclhaggab
open Go.ChangeShapes Go.WideShapes Go.ChangeAt Go.RowKit Go.Shelf

attribute [local go_sem] Oper.semAt_some

theorem in_store_blk {F : Fence} {n : Nat} {ops : Array Oper} {rest : List Oper} {o : Oper} {a : Act} {w : World} {Q : Exit → Act → World → Prop} (hgd : o.guard = none) (t : TypeId) (m : Nat) (hsz : (Try.prog.info? t).map (·.size) = some m) (x y : Operand) (ho : o.op = .store t x y)
    (g : Nat) (old P : List Int) (hold : old.length = m) (hP : P.length = m) (hx : a.eval x = .pointer (some ⟨g, 0, none⟩)) (hy : a.eval y = .agg (ints P).toArray) (hg : Hid (Blk t w g old))
    (h : ∀ w', Hid (Blk t w' g P) → w.grownBy w' (some g) → w'.heap.size = w.heap.size → wpListIn F n Try.prog ops Q rest (a.put o.dst undef) w') : wpListIn F n Try.prog ops Q (o :: rest) a w := by
  refine wpListIn_plain hgd fun K hK => ?_
  unfold Oper.wpIn
  refine ⟨by simp [Oper.about, ho], ?_⟩
  rw [Oper.semAt_plain F _ _ (by rw [ho]; intro c hc; cases hc)]
  unfold execOp
  simp only [ho, hx, hy, Instr.storeAt, Instr.sureAddr, Sem.run_bind, Sem.run_pure, Result.andThen_ok, run_storeVar_row w g t t (ints old).toArray (ints P).toArray hg.out (by rw [hsz]; simp [hP]) (by simp [hP, hold]) (ints_oneCellB P)]
  refine hK _ _ (h _ ?_ ?_ ?_)
  · exact setRow_heap w g _ _ _ _ hg.out
  · exact ⟨rfl, rfl, rfl, by simp, fun k _ hk => setRow_other w g k _ (fun e => hk (by simp [e]))⟩
  · simp
theorem in_load_blk {F : Fence} {n : Nat} {ops : Array Oper} {rest : List Oper} {o : Oper} {a : Act} {w : World} {Q : Exit → Act → World → Prop} (hgd : o.guard = none) (t : TypeId) (m : Nat) (hsz : (Try.prog.info? t).map (·.size) = some m) (d : TypeDesc) (hd : (match d with | .struct _ | .array _ _ => true | _ => false) = true) (hu : Try.prog.underlying t = some d)
    (x : Operand) (ho : o.op = .load t x) (g : Nat) (P : List Int) (hP : P.length = m) (hx : a.eval x = .pointer (some ⟨g, 0, none⟩)) (hg : Hid (Blk t w g P))
    (h : wpListIn F n Try.prog ops Q rest (a.put o.dst (.agg (ints P).toArray)) w) : wpListIn F n Try.prog ops Q (o :: rest) a w := by
  refine wpListIn_plain hgd fun K hK => ?_
  unfold Oper.wpIn
  refine ⟨by simp [Oper.about, ho], ?_⟩
  rw [Oper.semAt_plain F _ _ (by rw [ho]; intro c hc; cases hc)]
  unfold execOp
  simp only [ho, hx, Instr.loadAt, Instr.sureAddr, Sem.run_bind, Sem.run_pure, Result.andThen_ok, run_loadVar_row w g t t _ (0, 0) d hg.out hu (by cases d <;> first | rfl | cases hd) (by rw [hsz]; simp [hP])]
  exact hK _ _ h

theorem prts_info : (Try.prog.info? 86).map (·.size) = some 1 := by kernel_rfl
def fl (pre : List Par4) : List (List Int) := pre.map (·.1)
theorem fl_snoc (pre : List Par4) (x : Par4) : fl (pre ++ [x]) = fl pre ++ [x.1] := by simp [fl]
theorem fl_len (pre : List Par4) : (fl pre).length = pre.length := by simp [fl]
abbrev prtE (x : Par4) : Array Value := #[.agg (ints x.1).toArray]

set_option maxRecDepth 100000 in
set_option maxHeartbeats 4000000 in
theorem app_any (pb rb B0 : Nat) (l : List Int) (ht : Tell l) (v : Value) (w : World) (hpb : pb < w.heap.size) (hrb : rb < w.heap.size) (hP : w.cell? ⟨pb, 0, none⟩ = some v) (hrow : RowN w B0 57 2 v (pairsL l.length)) (hrl : ∀ i, v.ownBlock = some i → i < w.heap.size) (harr : Arr w rb (padR l)) :
    Calls Try.prog 121 #[.slice none 0 0, .func (.func 104) #[] #[.pointer (some ⟨pb, 0, none⟩), .pointer (some ⟨rb, 0, none⟩)]] w fun e w' => ∃ u, e = .returned u ∧ RowN w' w.heap.size 59 4 u (allP l) ∧ Below w.heap.size w w' := by
  obtain ⟨i0, hi, hz0, hz1, hz2⟩ := info_parts readParting_info
  obtain ⟨Q, hQ⟩ : ∃ Q, Q = allP l := ⟨_, rfl⟩
  have HQE := Lib.hid hQ.symm
  have HQR := Lib.hid (show ∀ p ∈ Q, p.length = 4 by rw [hQ]; exact allP_row l)
  rw [← hQ]
  clear hQ
  have HX : Hid (Boxed (w.alloc (.cells #[.slice none 0 0] 86)) w.heap.size 86 (.slice none 0 0)) := Boxed.new w _ _
  have HB : Hid (Below w.heap.size w (w.alloc (.cells #[.slice none 0 0] 86))) := (Below.refl _ _).alloc (Nat.le_refl _) _
  have HS1 : Hid ((w.alloc (.cells #[.slice none 0 0] 86)).heap.size = w.heap.size + 1) := by rw [Hid]; simp
  have HST := Lib.hid (fun m => prt_stops m pb rb B0 w.heap.size (w.heap.size + 1) (w.heap.size + 1) l ht v (w.alloc (.cells #[.slice none 0 0] 86)) (by rw [HS1.out]; omega) (by omega) (by omega) (.inl hpb) (.inl hrb)
    ((HB.out.cell (p := ⟨pb, 0, none⟩) hpb).trans hP) (hrow.alloc _) (fun i h => ⟨by have := hrl i h; omega, .inl (hrl i h)⟩) (harr.alloc _))
  rw [HQE.out] at HST
  clear hP hrow hrl harr
  obtain ⟨bs, hbs⟩ : ∃ bs, bs = w.heap.size := ⟨_, rfl⟩
  have HBS := Lib.hid hbs
  rw [← hbs] at HX HB HS1 HST hpb hrb
  refine callsIn_wide.1 (callsIn_of_wp_marks (n := 3) Try.func121 rfl trivial ?_ rfl)
  refine wpIn_wide.2 ?_
  simp only [Try.ntmps121, List.size_toArray, List.length_cons, List.length_nil, Nat.reduceAdd, Nat.reduceSub, Array.replicate_succ, Array.replicate_zero, List.push_toArray, List.append_toArray, List.nil_append, List.cons_append]
  go_wp2
  rw [← HBS.out]
  generalize hW : w.alloc (.cells #[.slice none 0 0] 86) = W1 at *
  clear hW
  have hs1 := HS1.out
  clear hbs
  have HO : OwnFrom W1.heap.size (fun (pre : List Par4) (W : World) => (∃ u, Boxed W bs 86 u ∧ W.ownsRow bs 59 4 u pre.length (ints (fl pre).flatten) ∧ True) ∧ Below bs w W) :=
    OwnFrom.and (Own.from (holdsRow_own bs bs 86 59 4 (fun pre : List Par4 => pre.length) (fun pre => ints (fl pre).flatten) (fun _ _ => True)) _) (ownFrom_below (by have := HBS.out; omega) (by have := HB.out.size; have := HBS.out; omega))
  refine (wpIn_wide (n := 3)).1 (wpIn_rangeFunc_ownH rfl (by omega) (gf := 104) (lb := #[.pointer (some ⟨pb, 0, none⟩), .pointer (some ⟨rb, 0, none⟩)]) rfl trivial (enters_of Try.func104 (by kernel_rfl) rfl)
    (HST.out _) kpX_t (kpX_b (by omega)) (Below.refl _ _) (fun _ => rfl)
    (fun pre W => (∃ u, Boxed W bs 86 u ∧ W.ownsRow bs 59 4 u pre.length (ints (fl pre).flatten) ∧ True) ∧ Below bs w W)
    (fun _ _ _ => False)
    HO
    (fun _ _ _ _ _ hs _ _ => hs)
    ⟨⟨_, HX.out, World.ownsRow_nil _ _ _ _, trivial⟩, HB.out⟩
    (fun x a' W => ∃ g, bs < g ∧ a' = { tmps := #[.slice none 0 0, .func (.func 104) #[] #[.pointer (some ⟨pb, 0, none⟩), .pointer (some ⟨rb, 0, none⟩)], .pointer (some ⟨bs, 0, none⟩), undef, .slice none 0 0, .pointer (some ⟨g, 0, none⟩), .func (.func 104) #[] #[.pointer (some ⟨pb, 0, none⟩), .pointer (some ⟨rb, 0, none⟩)], .agg (ints x.1).toArray, undef, undef, undef, undef, undef], defers := [] } ∧ Blk 59 W g x.1)
    (fun x a' _ A B row hs hg hr => by
      obtain ⟨g, h1, h2, h3⟩ := hs
      refine ⟨g, h1, h2, h3.grown hg (fun e => ?_)⟩
      obtain ⟨_, o, ho, hcl⟩ := hr g e.symm
      rw [h3] at ho
      injection ho with e1
      subst e1
      simp [Obj.isCells] at hcl)
    ?assign ?body ?done ?stop)
  case assign =>
    intro lq pre x V K hI hK
    have hlt := hI.1
    obtain ⟨u, hbx, _, _⟩ := hlt
    have hbl := hbx.lt
    have HNP := Lib.hid (Blk.new (t := 59) V [0, 0, 0, 0])
    clear hbx
    gi_wp2_with (refine in_store_blk rfl 59 4 readParting_size _ _ rfl V.heap.size [0, 0, 0, 0] x.1 rfl x.2 rfl rfl HNP ?_; intro V2 HB2 hg2 hs2)
    have hb : Below V.heap.size V V2 := ((Below.refl _ _).alloc (Nat.le_refl _) _).grown hg2 (by simp) (by simp)
    refine hK _ _ ⟨hb.size, fun k o _ hk _ => (hb.block k (Array.getElem?_eq_some_iff.1 hk).1).trans hk⟩ ((KpX.refl V).step hb (by omega)) (HO pre V V2 none hI (below_none hb) (fun r e => by cases e)) ⟨V.heap.size, hbl, rfl, HB2.out⟩
  case body =>
    rintro lq pre ⟨x, hx⟩ a' V _ _ ⟨⟨u, hbx, hrw, _⟩, hB⟩ ⟨g, hg, rfl, hblk⟩ hlen
    obtain ⟨p, q, r, s, rfl⟩ := of_four hx
    have hbl := hbx.lt
    have hcell := hbx.cell
    have HBX := Lib.hid hbx
    have HRW := Lib.hid hrw
    have HBK := Lib.hid hblk
    have HBB := Lib.hid hB
    have hpl : pre.length < 2500 := hlen
    obtain ⟨M, hM⟩ : ∃ M, M = pre.length := ⟨_, rfl⟩
    have HM := Lib.hid hM
    rw [← hM] at HRW hpl
    obtain ⟨X, hX⟩ : ∃ X, X = ints (fl pre).flatten := ⟨_, rfl⟩
    have HX := Lib.hid hX
    rw [← hX] at HRW
    clear hbx hrw hblk hB hlen hM hX
    gi_wp2_with (first
      | (refine in_load_blk rfl 59 4 readParting_size _ rfl Try.underlying59 _ rfl g [p, q, r, s] rfl rfl HBK ?_)
      | (gi_at_builtin; refine wpListIn_append_own _ rfl _ _ 86 rfl bs 59 i0 (.agg #[.int .i64 0, .int .i64 0, .int .i64 0, .int .i64 0]) 4 32 Try.underlying86 hi hz0 hz1 hz2 rfl (by decide) u M X rfl (HRW.out.alloc _) ⟨V.heap.size, 0, none⟩ 1 1 (ints [p, q, r, s]) rfl rfl (World.news_of_block (heap_alloc_new V _)) (ints_oneCell _) (by unfold maxLen; omega) (by omega) (by simp; omega) ?_; intro u' w5 hown5 hgr5 _; obtain ⟨g5, c5, rfl⟩ := ownsRow_succ hown5; have hap := Boxed.appended HBX.out (by decide) HRW.out (by omega) (Nat.le_refl _) hown5 hgr5; have hcell5 := hap.1.cell; have hfroz5 := hap.1.frozen))
    have hgb := hap.2.2.2.2
    have hkp : KpX bs (bs + 1) (bs + 1) V (w5.setCell ⟨bs, 0, none⟩ (.slice (some ⟨g5, 0, none⟩) (M + 1) c5)) := by
      refine ⟨hap.2.2.2.1.size, fun k hk hx => hgb.block k (by omega), fun j P e => ?_⟩
      have hjl := (Array.getElem?_eq_some_iff.1 e).1
      have h1 : some j ≠ u.ownBlock := by
        rcases HRW.out.2 with ⟨rfl, _⟩ | ⟨g', cap, cur, rfl, _, hgb', _⟩
        · simp [Value.ownBlock]
        · intro e'
          obtain rfl : j = g' := by simpa [Value.ownBlock] using e'
          rw [hgb'] at e
          injection e with e1
          injection e1 with _ e2 _
          exact absurd e2 (by decide)
      have h2 : j ≠ bs := by
        intro ej
        subst ej
        rw [show V.heap[j]? = _ from HBX.out] at e
        injection e with e1
        injection e1 with _ e2 _
        exact absurd e2 (by decide)
      exact (Below.heap_setCell _ _ _ j h2).trans ((hgr5.block j (by simp; omega) h1).trans (Below.heap_alloc _ _ _ hjl))
    refine ⟨hap.2.2.2.1.from _, hkp, ⟨_, hap.2.1, ?_⟩, HBB.out.trans hgb⟩
    have hr := hap.2.2.1
    rw [HX.out, HM.out] at hr
    rw [HM.out, fl_snoc, List.length_append, List.flatten_append]
    simpa [ints] using hr
  case done =>
    rintro D ys V hD hys ⟨⟨u, hbx, hrw, _⟩, hB⟩ hK
    have hcell := hbx.cell
    have HF : Hid (fl ys = Q) := hys
    have hyl : ys.length = Q.length := by rw [← HF.out, fl_len]
    go_wp2
    refine ⟨by simp, .inl ⟨_, _, rfl, run_takeDeferred hK, ?_⟩⟩
    rw [HF.out, hyl] at hrw
    rw [← HBS.out]
    exact ⟨_, results_tmp rfl _ _ _, u, rfl, ⟨HQR.out, ownsRow_putObj hrw _ hK rfl⟩, hB.trans (belowK_b (w := w) (by rw [HBS.out]; exact Nat.le_refl _) V D _ _ (by have := HB.out.size; have := HBS.out; omega) hK rfl rfl)⟩
  case stop =>
    rintro D c' pre V _ _ hh _
    exact hh.elim
end Go.Proofs.Ytamnacgclhaggab
