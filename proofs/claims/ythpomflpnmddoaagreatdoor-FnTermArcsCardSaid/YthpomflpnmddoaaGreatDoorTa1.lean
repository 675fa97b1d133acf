/- The sets of the terms in brackets: the program's. -/
import Derived.Test.YthpomflpnmddoaaGreatDoorTn3
import Derived.Test.YthpomflpnmddoaaGreatDoorWvU
import Derived.Test.YthpomflpnmddoaaGreatDoorWvD
import Derived.Test.YthpomflpnmddoaaGreatDoorMA
namespace Go.Proofs.YthpomflpnmddoaaGreatDoor
open Go.ChangeShapes Go.WideShapes Go.ChangeAt Go.RowKit

def intsN (l : List Nat) : List Int := l.map fun (s : Nat) => (s : Int)
theorem intsN_app (l m : List Nat) : intsN (l ++ m) = intsN l ++ intsN m := by simp [intsN]
theorem intsN_len (l : List Nat) : (intsN l).length = l.length := by simp [intsN]

/-- A row of the call's own appended to another one. -/
theorem apL_run {V : World} {B D : Nat} {v u : Value} {C l : List Int} (h : Own V B v C) (hu : Own V D u l) (hB : B ≤ V.heap.size) (hl : C.length + l.length ≤ 3000) :
    ∃ v' w', (∀ ty, (apI #[24, 24] ty #[v, u]).run Tryz.prog V = .ok v' w') ∧ Own w' B v' (C ++ l) ∧ V.grownBy w' v.ownBlock := by
  obtain ⟨i0, hi, hz0, hz1, hz2⟩ := info_parts int_info
  rcases hu.2 with ⟨e, h0⟩ | ⟨g, cap, cur, e, _⟩
  · have hl0 : l = [] := List.eq_nil_of_length_eq_zero h0
    subst hl0
    subst e
    exact ⟨v, V, fun ty => run_append_owned_none (P := Tryz.prog) V B 24 ty 3 i0 1 Tryz.underlying24 hi v C.length (ints C) h, by simpa using h, ⟨rfl, rfl, rfl, Nat.le_refl _, fun _ _ _ => rfl⟩⟩
  · subst e
    have hc := World.ownsRow.cells hu (g := g) rfl
    obtain ⟨v', w', hrun, hown, hgr, _⟩ := run_append_own (P := Tryz.prog) V B 24 24 3 i0 (.int .i64 0) 1 8 Tryz.underlying24 hi hz0 hz1 hz2 rfl (by decide) v C.length (ints C) h ⟨g, 0, none⟩ l.length cap (ints l) (by simp) hc (ints_oneCell l) (by unfold maxLen; omega) (by omega) hB
    refine ⟨v', w', fun _ => hrun, ?_, hgr⟩
    unfold Own
    rw [List.length_append]
    simpa [ints] using hown

/-- Sets are handed back. -/
def SetQ (l : List Nat) (w : World) (e : Ending) (w' : World) : Prop := ∃ v, e = .returned v ∧ Own w' w.heap.size v (intsN l) ∧ Below w.heap.size w w'
set_option maxRecDepth 10000 in
theorem setI_let (x : Int) (w : World) : Calls Tryz.prog 16 #[.iface 135 (.int .u8 x)] w (SetQ [] w) := by
  have y1 := ta_ls
  have y2 := ta_lb
  go_enter Tryz.func16, Tryz.ntmps16
  go_wp2_with fail
  go_ret
  exact ⟨_, rfl, ⟨rfl, .inl ⟨rfl, rfl⟩⟩, Below.refl _ _⟩
set_option maxRecDepth 10000 in
theorem setI_sgn (u : Value) (l : List Nat) (w : World) (hu : ∃ T x, u = .iface T x)
    (HC : Hid (∀ W, Below w.heap.size w W → Calls Tryz.prog 16 #[u] W (SetQ l W))) : Calls Tryz.prog 16 #[.iface 78 (.agg #[u])] w (SetQ l w) := by
  obtain ⟨T, x, rfl⟩ := hu
  have y1 := ta_ss
  go_enter Tryz.func16, Tryz.ntmps16
  go_wp2_with fail
  have hb := (Below.refl w.heap.size w).alloc (Nat.le_refl _) (.cells #[.iface T x] 78)
  refine (HC.out _ hb).mono ?_
  rintro e w1 ⟨v, rfl, ho, hb1⟩
  go_wp2_with fail
  go_ret
  exact ⟨_, rfl, own_less ho (by simp), hb.trans (hb1.mono (by simp))⟩
attribute [local go_sem ↓] apI_fold in
set_option maxRecDepth 10000 in
set_option maxHeartbeats 1000000 in
theorem setI_brk (gb c : Nat) (ts : List Tm) (w : World) (hgb : gb < w.heap.size) (hn : ts.length ≤ 60) (hl : Tm.lens ts ≤ 58) (hL : ∀ c ∈ Tm.rows ts, isL c = true)
    (HR : Hid (Calls Tryz.prog 36 #[.slice (some ⟨gb, 0, none⟩) ts.length c] w (RowQ (Tm.rows ts) w)))
    (hk : Hid (∀ k (hk : k < ts.length), ∃ T x, w.cell? ⟨gb, k, none⟩ = some (.iface T x) ∧ ∀ W, Below w.heap.size w W → Calls Tryz.prog 16 #[.iface T x] W (SetQ ts[k].sets W))) :
    Calls Tryz.prog 16 #[.iface 80 (.slice (some ⟨gb, 0, none⟩) ts.length c)] w (SetQ (Tm.B ts).sets w) := by
  have y1 := ta_bs
  have y2 := ta_bb
  have hrl := trows_le ts
  have hsl := setss_le ts
  obtain ⟨q, hq⟩ : ∃ q, q = bs (Tm.rows ts) := ⟨_, rfl⟩
  have HPT := Lib.hid (fun W => points_any q W (by rw [hq, bs_list]; exact hL) (by rw [hq, bs_size]; omega))
  obtain ⟨m, hm⟩ : ∃ m, m = q.size := ⟨_, rfl⟩
  have hm60 : m ≤ 60 := by rw [hm, hq, bs_size]; omega
  have hl2 : q.data.toList = Tm.rows ts := by rw [hq, bs_list]
  rw [hl2] at HPT
  obtain ⟨p, hp⟩ : ∃ p, p = ptsU (Tm.rows ts) := ⟨_, rfl⟩
  have hpin : Hid (∀ x ∈ p, 0 ≤ x ∧ x < 7) := by rw [Hid, hp]; exact ptsU_in hL
  have hmk : Hid (maskN p = bitsU (Tm.rows ts)) := by rw [Hid, hp]; rfl
  rw [← hp, ← hm] at HPT
  have HQ := Lib.hid hq
  obtain ⟨n, hN⟩ : ∃ n, n = ts.length := ⟨_, rfl⟩
  have HN := Lib.hid hN
  rw [← hN] at hn HR ⊢
  clear hN hq hm hl2 hp hL hrl
  go_enter Tryz.func16, Tryz.ntmps16
  go_wp2_with fail
  refine HR.out.mono ?_
  rintro e w1 ⟨rfl, hb1⟩
  rw [← HQ.out]
  have HB1 := Lib.hid hb1
  clear hb1
  go_wp2_with fail
  refine (HPT.out w1).mono ?_
  rintro e w2 ⟨rfl, ho2, hb2⟩
  have HB2 := Lib.hid (HB1.out.trans (hb2.mono HB1.out.size))
  have HRD := Lib.hid ho2.rd.2
  clear ho2 hb2 HPT
  go_wp2_with fail
  refine (setOf_any (some ⟨w1.heap.size, 0, none⟩) m m w2.heap.size p w2 HRD.out (by omega) hpin.out).mono ?_
  rintro e w' ⟨rfl, rfl⟩
  rw [hmk.out]
  obtain ⟨z, hz⟩ : ∃ z : Int, z = ((bitsU (Tm.rows ts) : Nat) : Int) := ⟨_, rfl⟩
  rw [← hz]
  have HZ := Lib.hid hz
  clear hz
  have ho0 : Own (w2.alloc (.cells #[.int .i64 z] 3)) w.heap.size (.slice (some ⟨w2.heap.size, 0, none⟩) 1 1) [z] :=
    ⟨by simp, .inr ⟨w2.heap.size, 1, _, rfl, HB2.out.size, heap_alloc_new w2 _, Nat.le_refl _, by decide, by simp, by simp [ints]⟩⟩
  have hb0 := HB2.out.alloc HB2.out.size (.cells #[.int .i64 z] 3)
  have HO0 := Lib.hid ho0
  have HB0 := Lib.hid hb0
  clear ho0 hb0
  go_wp2_with fail
  go_loopw [5, 26] (fun v i wr => ∃ k : Nat, k ≤ n ∧ i = .int .i64 k ∧ Hid (Own wr w.heap.size v (z :: intsN (Tm.setss (ts.take k)))) ∧ Hid (Below w.heap.size w wr)) (fun _ i _ => n - (intOf i).toNat)
  case atStart => exact ⟨0, Nat.zero_le _, rfl, HO0.out, HB0.out⟩
  case round =>
    obtain ⟨k, hk', rfl, ho, hbl⟩ := hrel
    by_cases hlt : k < n
    · have hkt : k < ts.length := by have := HN.out; omega
      obtain ⟨T, x, hc, hC⟩ := hk.out k hkt
      have hcw : wr.cell? ⟨gb, k, none⟩ = some (.iface T x) := (hbl.out.cell (p := ⟨gb, k, none⟩) hgb).trans hc
      have HC := Lib.hid (hC wr hbl.out)
      have hs1 : (Tm.setss (ts.take k)).length + (ts[k]'hkt).sets.length ≤ 58 := by
        have h1 := setss_le (ts.take (k + 1))
        have h2 := lens_take ts (k + 1)
        rw [take_snocT ts k hkt, setss_snoc, List.length_append] at h1
        rw [take_snocT ts k hkt] at h2
        omega
      have HE : Hid (z :: intsN (Tm.setss (ts.take (k + 1))) = (z :: intsN (Tm.setss (ts.take k))) ++ intsN (ts[k]'hkt).sets) := by
        rw [Hid, take_snocT ts k hkt, setss_snoc, intsN_app, List.cons_append]
      clear hc hC
      go_wp2_with (go_at_call 16; refine HC.out.mono ?_; rintro e w5 ⟨u, rfl, hu5, hb5⟩; have hv5 := own_same ho.out (fun i hi => hb5.block i (World.ownsRow.lt ho.out i hi).2); obtain ⟨v', w6, hrun, ho6, hg6⟩ := apL_run hv5 hu5 (by have := hbl.out.size; have := hb5.size; omega) (by simp [intsN]; omega); have HO6 := Lib.hid ho6; have hb6 := (hbl.out.trans (hb5.mono hbl.out.size)).grown hg6 (by have := hbl.out.size; have := hb5.size; omega) (fun k hk => (World.ownsRow.lt hv5 k hk).1); have HB6 := Lib.hid hb6; clear ho6 hg6 hb6 hu5 hv5 hb5)
      go_roundw
      case rel => exact ⟨k + 1, by omega, by go_num, by rw [Hid, HE.out]; exact HO6.out, HB6.out⟩
      case measure => simp [intOf]; omega
    · obtain rfl : k = n := by omega
      have e : z :: intsN (Tm.setss (ts.take k)) = intsN (Tm.B ts).sets := by rw [List.take_of_length_le (by have := HN.out; omega), Tm.sets, HZ.out]; rfl
      have ho1 := ho.out
      rw [e] at ho1
      have HO1 := Lib.hid ho1
      clear ho ho1 e
      go_wp2_with fail
      go_ret
      exact ⟨_, rfl, HO1.out, hbl.out⟩
theorem setI_all (m : Nat) : ∀ (t : Tm) (v : Value) (w : World), t.len ≤ m → t.len ≤ 60 → t.ok → TR w (fun b => b < w.heap.size) t v → Calls Tryz.prog 16 #[v] w (SetQ t.sets w) := by
  induction m with
  | zero => intro t v w h; have := len_pos t; omega
  | succ m ih =>
    intro t v w hm h60 hok h
    cases t with
    | L c =>
      rw [TR] at h
      subst h
      rw [Tm.sets]
      exact setI_let _ w
    | S t =>
      rw [Tm.ok] at hok
      rw [Tm.len] at hm h60
      rw [TR] at h
      obtain ⟨u, rfl, hr⟩ := h
      rw [Tm.sets]
      exact setI_sgn u _ w hr.iface fun W hb => ih t u W (by omega) (by omega) hok (TR.keep (fun k hk => hb.block k hk) (fun k hk => by have := hb.size; omega) t u hr)
    | B ts =>
      have hR := row_any hok h60 h
      rw [Tm.ok] at hok
      rw [Tm.len] at hm h60
      have hlen := lens_len ts
      obtain ⟨g, c, e0, h1, h2, h3, hk⟩ := h.kid
      subst e0
      refine setI_brk g c ts w h3 (by omega) (by omega) (rows_L ts hok.2) (hR.brk_ _ _ _ rfl) fun k hkt => ?_
      obtain ⟨u, hc, hr⟩ := hk k hkt
      obtain ⟨T, x, rfl⟩ := hr.iface
      refine ⟨T, x, hc, fun W hb => ?_⟩
      have hlm := len_mem (List.getElem_mem hkt)
      exact ih _ _ W (by omega) (by omega) (oks_mem hok.2 _ (List.getElem_mem hkt)) (TR.keep (fun k hk => hb.block k hk) (fun k hk => by have := hb.size; omega) _ _ hr)
end Go.Proofs.YthpomflpnmddoaaGreatDoor
