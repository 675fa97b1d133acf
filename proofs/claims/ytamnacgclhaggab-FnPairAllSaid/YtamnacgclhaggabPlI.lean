/- PairAll of the program. -/
import Derived.Test.YtamnacgclhaggabPaD
import Derived.Stop.RegionWithIn
namespace Go.Proofs.Ytamnacgclhaggab
open Go.ChangeShapes Go.WideShapes Go.ChangeAt Go.RowKit Go.Shelf

attribute [local go_sem] Oper.semAt_some

def paR (l : List Int) : List (List Int) := if ringB l then allP l else []
theorem pa_yes {l : List Int} (hr : Ring l) : paR l = allP l := by rw [paR, ring_yes hr]; rfl
theorem pa_no {l : List Int} (h : ¬ Ring l) : paR l = [] := by rw [paR, ring_no h]; rfl

/-- The append by another name: what it gives is laid as a fact. -/
def apS (ts : Array TypeId) (ty : TypeId) (args : Array Value) : Sem Value := Builtin.append_ ts ty args
theorem ap_fold (ts : Array TypeId) (ty : TypeId) (args : Array Value) : Builtin.append_ ts ty args = apS ts ty args := rfl
attribute [local go_sem ↓] ap_fold

theorem GrowX.keepB {w w' : World} {B : Nat} {v : Value} {L : List (List Int)} {xs : List Value} (h : GrowX w B v L xs) (hk : ∀ k, B ≤ k → k < w.heap.size → w'.heap[k]? = w.heap[k]?) : GrowX w' B v L xs := by
  obtain ⟨h1, h2, h3⟩ := h
  refine ⟨⟨h1.1, ?_⟩, fun k hkl => ?_, h3⟩
  · rcases h1.2 with e | ⟨g, cap, cur, e, hb, hg, rest⟩
    · exact .inl e
    · exact .inr ⟨g, cap, cur, e, hb, (hk g hb (Array.getElem?_eq_some_iff.1 hg).1).trans hg, rest⟩
  · obtain ⟨u, h4, h5⟩ := h2 k hkl
    exact ⟨u, h4, h5.same fun i hi => hk i (h5.1.lt i hi).1 (h5.1.lt i hi).2⟩

theorem rowV_own {w : World} {B : Nat} {v : Value} {l : List Int} (hl : 0 < l.length) (h : w.ownsRow B 3 1 v l.length (ints l)) : RowV w B v l := by
  refine ⟨Own.gen (by simpa [Own] using h), ?_⟩
  rcases h.2 with ⟨_, h0⟩ | ⟨g, cap, cur, e, _, _, h2, h3, _⟩
  · omega
  · exact ⟨_, cap, e, h2, by unfold maxLen at h3; omega⟩

/-- The list of a parting, a cell for it, the list appended to what has come. -/
theorem pa_append (V w5 : World) (n0 e0 : Nat) (u vk : Value) (pre : List (List Int)) (l : List Int) (hd : (pre = [] ∧ u = .slice (some ⟨e0, 0, none⟩) 0 0) ∨ ∃ xs, GrowX V n0 u pre xs) (hb5 : Below V.heap.size V w5) (hr : RowV w5 V.heap.size vk l) (h1 : vk.oneCell' = true)
    (hn : n0 ≤ V.heap.size) (hlen : pre.length ≤ 3000) :
    ∃ u' w6, (apS #[25, 25] 25 #[u, .slice (some ⟨w5.heap.size, 0, none⟩) 1 1]).run Try.prog (w5.alloc (.cells #[vk] 23)) = .ok u' w6 ∧ (∃ g c, u' = .slice (some ⟨g, 0, none⟩) (pre.length + 1) c) ∧ (∃ xs, GrowX w6 n0 u' (pre ++ [l]) xs) ∧
      Below n0 V w6 ∧ ∀ (j : Nat) (o : Obj), V.heap[j]? = some o → (∀ cs f, o ≠ .cells cs 23 f) → w6.heap[j]? = some o := by
  obtain ⟨i0, hi, hz0, hz1, hz2⟩ := info_parts row_info
  have hs5 := hb5.size
  have hc : ∀ j y, [vk][j]? = some y → (w5.alloc (.cells #[vk] 23)).cell? ((⟨w5.heap.size, 0, none⟩ : Addr).add j) = some y := one_cell w5 vk 23
  have hba : Below V.heap.size V (w5.alloc (.cells #[vk] 23)) := hb5.alloc hs5 _
  rcases hd with ⟨rfl, rfl⟩ | ⟨xs, hx⟩
  · obtain ⟨u', w6, hrun, hown, hgr⟩ := run_append_arg_grows (P := Try.prog) (w5.alloc (.cells #[vk] 23)) 25 25 23 i0 (.slice none 0 0) 1 24 Try.underlying25 hi hz0 hz1 hz2 rfl (by decide) ⟨e0, 0, none⟩ 0 0 [] (by simp) (by simp) ⟨w5.heap.size, 0, none⟩ 1 1 [vk] (by simp) hc (by omega) (by unfold maxLen; omega) (by omega)
    have hb6 : Below V.heap.size V w6 := hba.grown hgr (by simp; omega) (by simp)
    exact ⟨u', w6, hrun, ownsRow_succ hown, ⟨_, GrowX.one (w1 := w5) (by omega) (hr.less hn) _ hown hgr⟩, hb6.mono hn, fun j o ho _ => (hb6.block j (Array.getElem?_eq_some_iff.1 ho).1).trans ho⟩
  · obtain ⟨u', w6, hrun, hown, hgr, _⟩ := run_append_own (P := Try.prog) (w5.alloc (.cells #[vk] 23)) n0 25 25 23 i0 (.slice none 0 0) 1 24 Try.underlying25 hi hz0 hz1 hz2 rfl (by decide) u pre.length xs ((hx.below hba (Nat.le_refl _)).1) ⟨w5.heap.size, 0, none⟩ 1 1 [vk] (by simp) hc (by simpa using h1) (by unfold maxLen; omega) (by omega) (by simp; omega)
    refine ⟨u', w6, hrun, ownsRow_succ hown, ⟨_, hx.snoc hb5 hn hr _ hown hgr⟩, (hba.mono hn).grown hgr (by simp; omega) (fun k hk => (hx.1.lt k hk).1), fun j o ho hne => ?_⟩
    have hj := (Array.getElem?_eq_some_iff.1 ho).1
    refine (hgr.block j (by simp; omega) (fun e => ?_)).trans ((hba.block j hj).trans ho)
    rcases hx.1.2 with ⟨e1, _⟩ | ⟨g, cap, cur, e1, _, hg, _⟩
    · rw [e1] at e; cases e
    · rw [e1] at e
      have e2 : j = g := by simpa [Value.ownBlock] using e
      subst e2
      rw [ho] at hg
      injection hg with hg
      exact hne _ _ hg

set_option maxRecDepth 100000 in
set_option maxHeartbeats 4000000 in
theorem paI_any (A : Option Addr) (n c H : Nat) (l : List Int) (w : World) (h : Rd w H A n l) (hH : H ≤ w.heap.size) (hn : n ≤ 1048576) (hnc : n ≤ c) (hcm : c ≤ 9223372036854775807) :
    Calls Try.prog 13 #[.slice A n c] w fun e w' => ∃ v, e = .returned (.tuple #[v, .bool (ringB l)]) ∧ OwnS w' w.heap.size w'.heap.size v (paR l) ∧ Below w.heap.size w w' := by
  have HL := Lib.hid h.len
  have HR := Lib.hid (readR_any A n c H l w h hH hn hnc hcm)
  have H7 := Lib.hid (ringP_length l)
  clear h
  by_cases hr : Ring l
  rotate_left
  · rw [pa_no hr]
    rw [ring_no hr] at HR ⊢
    generalize ringP l = P at *
    clear hr
    go_enter Try.func13, Try.ntmps13
    go_wp2_with fail
    refine HR.out.mono ?_
    rintro e W1 ⟨rfl, hb1⟩
    have HA := Lib.hid (new_ring W1)
    have hs1 := hb1.size
    go_wp2_with (refine store_ring rfl _ _ rfl W1.heap.size zero7 P rfl H7.out rfl rfl HA ?_; intro w2 HA2 hg2 hs2)
    go_ret2
    exact ⟨_, rfl, .inl ⟨rfl, rfl⟩, (hb1.alloc hs1 _).grown hg2 (by simp; omega) (by simp; omega)⟩
  rw [pa_yes hr]
  rw [ring_yes hr, show ringP l = padR l from by rw [ringP, if_pos hr]] at HR
  rw [ring_yes hr]
  rw [show ringP l = padR l from by rw [ringP, if_pos hr]] at H7
  have HT := Lib.hid hr.1
  have HPT := Lib.hid (fun V => partings_any l V HT.out)
  unfold agp at HPT
  obtain ⟨Q, hQ⟩ : ∃ Q, Q = allP l := ⟨_, rfl⟩
  rw [← hQ]
  have HQE := Lib.hid hQ.symm
  clear hr hQ
  refine callsIn_wide.1 (callsIn_of_wp_marks (n := 3) Try.func13 rfl trivial ?_ rfl)
  refine wpIn_wide.2 ?_
  simp only [Try.ntmps13, List.size_toArray, List.length_cons, List.length_nil, Nat.reduceAdd, Nat.reduceSub, Array.replicate_succ, Array.replicate_zero, List.push_toArray, List.append_toArray, List.nil_append, List.cons_append]
  go_wp2_with fail
  refine HR.out.mono ?_
  rintro e W1 ⟨rfl, hb1⟩
  have HA := Lib.hid (new_ring W1)
  have hs1 := hb1.size
  have HB1 := Lib.hid hb1
  clear hb1 HR
  go_wp2_with (first
    | (refine store_ring rfl _ _ rfl W1.heap.size zero7 (padR l) rfl H7.out rfl rfl HA ?_; intro w2 HA2 hg2 hs2; clear hs2; have hb2 : Hid (Below W1.heap.size W1 w2) := Lib.hid (((Below.refl _ _).alloc (Nat.le_refl _) _).grown hg2 (by simp) (by simp)); have HA3 := Lib.hid ((HA2.out.alloc (.cells #[] 23)).alloc (.cells #[.slice (some ⟨w2.heap.size, 0, none⟩) 0 0] 25)))
    | (refine load_ring rfl _ rfl W1.heap.size (padR l) H7.out rfl HA3 ?_))
  have hs2 := hb2.out.size
  have HB2 := Lib.hid (HB1.out.trans (hb2.out.mono hs1))
  have hs02 := HB2.out.size
  have HBX := Lib.hid ((HB2.out.alloc hs02 (.cells #[] 23)).alloc (by simp; omega) (.cells #[.slice (some ⟨w2.heap.size, 0, none⟩) 0 0] 25))
  have HC0 : Hid (((w2.alloc (.cells #[] 23)).alloc (.cells #[.slice (some ⟨w2.heap.size, 0, none⟩) 0 0] 25)).heap[w2.heap.size + 1]? = some (.cells #[.slice (some ⟨w2.heap.size, 0, none⟩) 0 0] 25 (0, 0))) := by
    have := heap_alloc_new (w2.alloc (.cells #[] 23)) (.cells #[.slice (some ⟨w2.heap.size, 0, none⟩) 0 0] 25)
    rwa [show (w2.alloc (.cells #[] 23)).heap.size = w2.heap.size + 1 by simp] at this
  have HE0 : Hid (((w2.alloc (.cells #[] 23)).alloc (.cells #[.slice (some ⟨w2.heap.size, 0, none⟩) 0 0] 25)).heap[w2.heap.size]? = some (.cells #[] 23 (0, 0))) :=
    (Below.heap_alloc _ _ _ (by simp)).trans (heap_alloc_new w2 _)
  have HSZ : Hid (((w2.alloc (.cells #[] 23)).alloc (.cells #[.slice (some ⟨w2.heap.size, 0, none⟩) 0 0] 25)).heap.size = w2.heap.size + 2) := by rw [Hid]; simp
  generalize hbm : w2.heap.size = e0 at *
  generalize hW : (w2.alloc (.cells #[] 23)).alloc (.cells #[.slice (some ⟨e0, 0, none⟩) 0 0] 25) = W3 at *
  generalize hrb0 : W1.heap.size = r0 at *
  clear hW hbm hrb0 HA HA2 HA3 hg2 hb2 HB1 HB2
  refine (HPT.out W3).mono ?_
  rintro e w4 ⟨pb, v, rfl, hp1, hp2, hpc, hrow, harr, hb4⟩
  have HB4 := Lib.hid (HBX.out.trans (hb4.mono (by have := HSZ.out; omega)))
  have hs4 := hb4.size
  have h34 := HSZ.out
  have HC4 : Hid (Boxed w4 (e0 + 1) 25 (.slice (some ⟨e0, 0, none⟩) 0 0)) := (hb4.block (e0 + 1) (by omega)).trans HC0.out
  have HE4 : Hid (w4.heap[e0]? = some (.cells #[] 23 (0, 0))) := (hb4.block e0 (by omega)).trans HE0.out
  obtain ⟨n0, hn0⟩ : ∃ n0, n0 = w4.heap.size := ⟨_, rfl⟩
  have HST := Lib.hid (fun m => prt_stops m pb W3.heap.size W3.heap.size (e0 + 1) (e0 + 2) n0 l HT.out v w4 (by omega) (by omega) (by omega) (by omega) (by omega) hpc hrow (fun i hi => by have := hrow.lt i hi; omega) harr)
  rw [HQE.out] at HST
  have hbw : w.heap.size ≤ e0 := by omega
  have hn2 : e0 + 2 < n0 := by omega
  have HN0 := Lib.hid hn0
  clear hrow harr hpc hb4 HC0 HE0 HBX HPT hs2 hs02 hs1
  rw [h34] at HST hp1 hs4
  clear hp1 HSZ hs4 hp2 hn0
  go_wp2
  clear h34
  have HO : OwnFrom w4.heap.size (fun (pre : List Par4) (W : World) => (∃ u, Boxed W (e0 + 1) 25 u ∧ ((pre = [] ∧ u = .slice (some ⟨e0, 0, none⟩) 0 0) ∨ ∃ xs, GrowX W n0 u (fl pre) xs)) ∧ W.heap[e0]? = some (.cells #[] 23 (0, 0)) ∧ Below w.heap.size w W ∧ n0 ≤ W.heap.size) := by
    rintro pre X Y row ⟨⟨u, hbx, hd⟩, he, hb, hn⟩ hg hr
    have keep : ∀ (k : Nat) (cs : Array Value) (t : TypeId) (f : Nat × Nat), X.heap[k]? = some (.cells cs t f) → Y.heap[k]? = X.heap[k]? := fun k cs t f hk => hg.block k (Array.getElem?_eq_some_iff.1 hk).1 (fun e => by
      obtain ⟨_, o, ho, hcl⟩ := hr k e.symm
      rw [hk] at ho
      injection ho with e1
      subst e1
      simp [Obj.isCells] at hcl)
    refine ⟨⟨u, (keep _ _ _ _ hbx).trans hbx, hd.imp id (fun ⟨xs, hx⟩ => ⟨xs, hx.keep keep⟩)⟩, (keep _ _ _ _ he).trans he, hb.grown hg hb.size (fun r e => ?_), Nat.le_trans hn hg.size⟩
    have := (hr r e).1
    have := HB4.out.size
    omega
  refine (wpIn_wide (n := 3)).1 (wpIn_rangeFunc_ownH rfl (by omega) (gf := 104) (lb := #[.pointer (some ⟨pb, 0, none⟩), .pointer (some ⟨e0 + 2, 0, none⟩)]) rfl trivial (enters_of Try.func104 (by kernel_rfl) rfl)
    (HST.out _) kpX_t (kpX_b (by have := HN0.out; omega)) (Below.refl _ _) (fun _ => rfl)
    (fun pre W => (∃ u, Boxed W (e0 + 1) 25 u ∧ ((pre = [] ∧ u = .slice (some ⟨e0, 0, none⟩) 0 0) ∨ ∃ xs, GrowX W n0 u (fl pre) xs)) ∧ W.heap[e0]? = some (.cells #[] 23 (0, 0)) ∧ Below w.heap.size w W ∧ n0 ≤ W.heap.size)
    (fun _ _ _ => False)
    HO
    (fun _ _ _ _ _ hs _ _ => hs)
    ⟨⟨_, HC4.out, .inl ⟨rfl, rfl⟩⟩, HE4.out, HB4.out, by have := HN0.out; omega⟩
    (fun x a' W => ∃ g, n0 ≤ g ∧ a' = { tmps := #[.slice A n c, undef, .slice none 0 0, .bool false, .pointer (some ⟨r0, 0, none⟩), .bool true, .pointer (some ⟨e0 + 1, 0, none⟩), .pointer (some ⟨g, 0, none⟩), .tuple #[.agg (ints (padR l)).toArray, .bool true], .slice A n c, .tuple #[.agg (ints (padR l)).toArray, .bool true], .agg (ints (padR l)).toArray, .bool true, .bool true, .bool false, .slice (some ⟨e0, 0, none⟩) 0 0, .agg (ints (padR l)).toArray, .func (.func 104) #[] #[.pointer (some ⟨pb, 0, none⟩), .pointer (some ⟨e0 + 2, 0, none⟩)], .agg (ints x.1).toArray, undef, undef, undef, undef, undef, undef], defers := [] } ∧ Blk 59 W g x.1)
    (fun x a' _ A B row hs hg hr => by
      obtain ⟨g, h1, h2, h3⟩ := hs
      refine ⟨g, h1, h2, h3.grown hg (fun e => ?_)⟩
      obtain ⟨_, o, ho, hcl⟩ := hr g e.symm
      rw [h3] at ho
      injection ho with e1
      subst e1
      simp [Obj.isCells] at hcl)
    ?assign ?body ?done ?stop)
  case assign =>
    intro lq pre x V K hI hK
    have hbl := hI.2.2.2
    have HNP := Lib.hid (Blk.new (t := 59) V [0, 0, 0, 0])
    gi_wp2_with (refine in_store_blk rfl 59 4 readParting_size _ _ rfl V.heap.size [0, 0, 0, 0] x.1 rfl x.2 rfl rfl HNP ?_; intro V2 HB2 hg2 hs2)
    have hb : Below V.heap.size V V2 := ((Below.refl _ _).alloc (Nat.le_refl _) _).grown hg2 (by simp) (by simp)
    refine hK _ _ ⟨hb.size, fun k o _ hk _ => (hb.block k (Array.getElem?_eq_some_iff.1 hk).1).trans hk⟩ ((KpX.refl V).step hb (by omega)) (HO pre V V2 none hI (below_none hb) (fun r e => by cases e)) ⟨V.heap.size, hbl, rfl, HB2.out⟩
  case body =>
    rintro lq pre ⟨x, hx⟩ a' V _ _ ⟨⟨u, hbx, hd⟩, he, hB, hnV⟩ ⟨g, hg, rfl, hblk⟩ hlen
    obtain ⟨p, q, r, s, rfl⟩ := of_four hx
    have hbl := hbx.lt
    have hcell := hbx.cell
    have hlen' : (fl pre).length ≤ 3000 := by rw [fl_len]; omega
    have hd' : (fl pre = [] ∧ u = .slice (some ⟨e0, 0, none⟩) 0 0) ∨ ∃ xs, GrowX V n0 u (fl pre) xs := hd.imp (fun h => ⟨by rw [h.1]; rfl, h.2⟩) id
    have HPA := Lib.hid (fun (w5 : World) (vk : Value) (hb5 : Below V.heap.size V w5) (hr : RowV w5 V.heap.size vk [p, q, r, s]) (h1 : vk.oneCell' = true) => pa_append V w5 n0 e0 u vk (fl pre) [p, q, r, s] hd' hb5 hr h1 hnV hlen')
    have HBX := Lib.hid hbx
    have c0 := hblk.cell (i := 0) (by simp)
    have c1 := hblk.cell (i := 1) (by simp)
    have c2 := hblk.cell (i := 2) (by simp)
    have c3 := hblk.cell (i := 3) (by simp)
    simp only [List.getD_cons_zero, List.getD_cons_succ] at c0 c1 c2 c3
    have HBK := Lib.hid hblk
    have HE := Lib.hid he
    have HBB := Lib.hid hB
    have HNV := Lib.hid hnV
    have HGG := Lib.hid hblk.lt
    clear hbx hd hd' hblk he hB hlen hlen'
    gi_wp2
    gi_region_with ((refine ⟨trivial, ?_⟩; gi_at_call 51; refine (CallsIn.inRound lq (callsIn_wide.2 (prtList_any p q r s _))).mono ?_; rintro e w5 ⟨vk, rfl, hown, hb5d⟩; have hb5 : Below V.heap.size V w5 := (Below.refl V.heap.size V).drew.trans hb5d; have hrv := rowV_own (l := [p, q, r, s]) (by simp) hown; obtain ⟨g5, c5, rfl⟩ := ownsRow_succ hown; obtain ⟨u', w6, hrun, ⟨g6, c6, rfl⟩, hgx, hb6, hoth⟩ := HPA.out w5 _ hb5 hrv rfl; have hbx5 : Boxed w5 (e0 + 1) 25 u := (hb5.block (e0 + 1) hbl).trans HBX.out; have hbx5a := hbx5.alloc (.cells #[.slice (some ⟨g5, 0, none⟩) 4 c5] 23); have hcell5 := hbx5.cell; have hcell5a := hbx5a.cell; have hbx6 : Boxed w6 (e0 + 1) 25 u := hoth _ _ HBX.out (fun cs f e => by injection e with _ e2 _; exact absurd e2 (by decide)); have hcell6 := hbx6.cell; have hfroz6 := hbx6.frozen; have K6 := Lib.hid hgx; have KB6 := Lib.hid hb6; have KO6 := Lib.hid hoth; have KX6 := Lib.hid hbx6; clear hrv hown hgx hb6 hoth hbx5 hbx5a hbx6 hb5 hb5d))
    all_goals
      gi_wp2
      have hset : ∀ k : Nat, k ≠ e0 + 1 → (w6.setCell ⟨e0 + 1, 0, none⟩ (.slice (some ⟨g6, 0, none⟩) ((fl pre).length + 1) c6)).heap[k]? = w6.heap[k]? := fun k hk => Below.heap_setCell _ _ _ k hk
      have hne : ∀ (k : Nat) (o : Obj), V.heap[k]? = some o → (∀ cs f, o ≠ .cells cs 25 f) → k ≠ e0 + 1 := fun k o ho hn e => by
        subst e
        rw [show V.heap[e0 + 1]? = _ from HBX.out] at ho
        injection ho with ho
        exact hn _ _ ho.symm
      have hsz : (w6.setCell ⟨e0 + 1, 0, none⟩ (.slice (some ⟨g6, 0, none⟩) ((fl pre).length + 1) c6)).heap.size = w6.heap.size := by simp [World.setCell]
      have hs6 := KB6.out.size
      refine ⟨⟨by rw [hsz]; exact hs6, fun k o _ hk ho => ?_⟩, ⟨by rw [hsz]; exact hs6, fun k hk hx => (hset k (by omega)).trans (KB6.out.block k hk), fun j P e => ?_⟩, ⟨_, KX6.out.set _, .inr ?_⟩, ?_, ?_, ?_⟩
      · exact (hset k (hne k o hk (fun cs f e => by rw [e] at ho; simp [Obj.isCells] at ho))).trans (KO6.out k o hk (fun cs f e => by rw [e] at ho; simp [Obj.isCells] at ho))
      · rw [e]
        exact (hset j (hne j _ e (fun cs f e1 => by injection e1 with _ e2 _; exact absurd e2 (by decide)))).trans (KO6.out j _ e (fun cs f e1 => by injection e1 with _ e2 _; exact absurd e2 (by decide)))
      · obtain ⟨xs, hx⟩ := K6.out
        rw [fl_snoc]
        exact ⟨xs, hx.keepB fun k hk _ => hset k (by omega)⟩
      · exact (hset e0 (by omega)).trans ((KB6.out.block e0 (by omega)).trans HE.out)
      · exact (HBB.out.trans (KB6.out.mono (by omega))).setCell (p := ⟨e0 + 1, 0, none⟩) (by show w.heap.size ≤ e0 + 1; omega) _
      · rw [hsz]; omega
  case done =>
    rintro D ys V hD hys ⟨⟨u, hbx, hd⟩, he, hB, hnV⟩ hK
    have hcell := hbx.cell
    have HF : Hid (fl ys = Q) := hys
    have keep : ∀ (k : Nat) (cs : Array Value) (t : TypeId) (f : Nat × Nat), V.heap[k]? = some (.cells cs t f) → (V.putObj D (.deferred none)).heap[k]? = V.heap[k]? := fun k cs t f hk => World.putObj_heap_other (fun e => by
      subst e
      rw [hk] at hK
      cases hK)
    have hown : OwnS (V.putObj D (.deferred none)) w.heap.size (V.putObj D (.deferred none)).heap.size u Q := by
      rw [← HF.out]
      rcases hd with ⟨h1, h2⟩ | ⟨xs, hx⟩
      · subst h1
        have := (keep _ _ _ _ he).trans he
        exact .inr ⟨e0, 0, #[], fun _ => undef, h2, hbw, (Array.getElem?_eq_some_iff.1 this).1, this, fun j hj => absurd hj (by simp [fl]), fun i j hi => absurd hi (by simp [fl])⟩
      · exact (hx.keep keep).owned.more (by omega) (Nat.le_refl _)
    have HW := Lib.hid hown
    have HD := Lib.hid hB
    clear hown hd keep
    go_wp2
    refine ⟨by simp, .inl ⟨_, _, rfl, run_takeDeferred hK, ?_⟩⟩
    exact ⟨_, results_tmp2 rfl _ _ _, u, rfl, HW.out, HD.out.trans (belowK_b (w := w) (Nat.le_refl _) V D _ _ (by have := HB4.out.size; omega) hK rfl rfl)⟩
  case stop =>
    rintro D c' pre V _ _ hh _
    exact hh.elim
end Go.Proofs.Ytamnacgclhaggab
