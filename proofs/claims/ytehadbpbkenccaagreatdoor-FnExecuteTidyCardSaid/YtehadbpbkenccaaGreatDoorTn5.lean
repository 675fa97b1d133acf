/- Tidy terms: the program's and the model's. -/
import Derived.Test.YtehadbpbkenccaaGreatDoorTn2
import Derived.Test.YtehadbpbkenccaaGreatDoorTn3
namespace Go.Proofs.YtehadbpbkenccaaGreatDoor
open Go.ChangeShapes Go.WideShapes Go.ChangeAt Go.RowKit Go.Sort

/-! ### The program's -/
theorem rowS_holds {w : World} {g n : Nat} {L : List (List UInt8)} (h : RowS w g n L) : Holds encStr w g 0 L.toArray := by
  intro j hj
  have hj' : j < L.length := by simpa using hj
  rw [Nat.zero_add]
  refine ⟨?_, h.frozen j⟩
  rw [h.at_ hj']
  simp [getElem!_pos, hj', encStr, bs]
theorem rev_str (g n c : Nat) (L : List (List UInt8)) (w : World) (h : RowS w g n L) (hL : L.length = n) (hn : n ≤ 1048576) :
    Calls Tryz.prog 27 #[.slice (some ⟨g, 0, none⟩) n c] w fun e w' => e = .returned (.tuple #[]) ∧ RowS w' g n L.reverse ∧ Below g w w' := by
  subst hL
  have hlt := h.lt
  obtain ⟨cur, hg, hs, hr⟩ := id h
  refine (Any.slices_Reverse_string Tryz.lays217 g 0 c L w (rowS_holds h) (by omega)).mono fun e w' ⟨he, q, hw⟩ => ⟨he, ?_, ?_⟩
  · subst hw
    refine ⟨Sort.putCells encStr 0 L.reverse.toArray cur, ?_, ?_, fun j hj => ?_⟩
    · simp [putRow, mapBlock, Array.getElem?_modify, onCells]
      exact ⟨_, hg, rfl⟩
    · simp [Sort.putCells, hs]
    · have hj' : j < cur.size := by rw [hs]; simpa using hj
      have hj2 : j < L.length := by simpa using hj
      have e : cur[j]? = some cur[j] := Array.getElem?_eq_getElem hj'
      simp [Sort.putCells, e, hj2, encStr, bs]
  · subst hw
    refine ⟨rfl, rfl, rfl, by simp [putRow, mapBlock, Sort.ahead], fun k hk => ?_⟩
    simp [putRow, mapBlock, Sort.ahead, Array.getElem?_modify]
    omega

set_option maxRecDepth 10000 in
theorem tidI_let (c : UInt8) (hL : isL c = true) (b : Bool) (w : World) : Calls Tryz.prog 10 #[.iface 154 (.int .u8 (c.toNat : Int)), .bool b] w (RowQ [c] w) := by
  have y1 := ta_ls
  have y2 := ta_lb
  have x1 := m_let
  have HC := Lib.hid (row_let c hL w)
  clear hL
  go_enter Tryz.func10, Tryz.ntmps10
  go_wp2_with (go_at_call 345; refine HC.out.mono ?_; rintro e w1 ⟨rfl, hb1⟩)
  go_ret
  exact ⟨rfl, hb1⟩
set_option maxRecDepth 10000 in
theorem tidI_sgn (u : Value) (b : Bool) (l : List UInt8) (w : World) (hu : ∃ T x, u = .iface T x)
    (HC : Hid (∀ W, Below w.heap.size w W → Calls Tryz.prog 10 #[u, .bool (!b)] W (RowQ l W))) : Calls Tryz.prog 10 #[.iface 74 (.agg #[u]), .bool b] w (RowQ l w) := by
  obtain ⟨T, x, rfl⟩ := hu
  have y1 := ta_ss
  go_enter Tryz.func10, Tryz.ntmps10
  go_wp2_with fail
  have hb := (Below.refl w.heap.size w).alloc (Nat.le_refl _) (.cells #[.iface T x] 74)
  refine (HC.out _ hb).mono ?_
  rintro e w1 ⟨rfl, hb1⟩
  go_wp2_with fail
  go_ret
  exact ⟨rfl, hb.trans (hb1.mono (by simp))⟩
theorem tidL_len (b : Bool) (ts : List Tm) : ((ts.map (Tm.tidy b)).flatten).length ≤ Tm.lens ts := by
  have h1 := tidys_le ts b
  rw [tidys_flat] at h1
  cases b
  · simpa using h1
  · simpa [List.length_flatten, List.map_reverse, List.sum_reverse] using h1
set_option maxRecDepth 10000 in
set_option maxHeartbeats 1000000 in
theorem tidI_brk (gb c : Nat) (ts : List Tm) (b : Bool) (w : World) (hgb : gb < w.heap.size) (hn : ts.length ≤ 60) (hl : Tm.lens ts ≤ 60)
    (hk : Hid (∀ k (hk : k < ts.length), ∃ T x, w.cell? ⟨gb, k, none⟩ = some (.iface T x) ∧ ∀ W, Below w.heap.size w W → Calls Tryz.prog 10 #[.iface T x, .bool b] W (RowQ (ts[k].tidy b) W))) :
    Calls Tryz.prog 10 #[.iface 76 (.slice (some ⟨gb, 0, none⟩) ts.length c), .bool b] w (RowQ ((Tm.B ts).tidy b) w) := by
  obtain ⟨i0, hi, hz0, hz1, hz2⟩ := info_parts str_info
  have y1 := ta_bs
  have y2 := ta_bb
  obtain ⟨n, hN⟩ : ∃ n, n = ts.length := ⟨_, rfl⟩
  have HN := Lib.hid hN
  rw [← hN] at hn ⊢
  clear hN
  go_enter Tryz.func10, Tryz.ntmps10
  go_wp2_with (at_make; refine wpList_make_full _ rfl _ _ 47 rfl w.heap.size 9 i0 (.string ⟨#[]⟩) 1 Tryz.underlying47 hi hz0 hz1 .i64 .i64 _ _ n rfl rfl rfl rfl (by rw [hz2]; omega) (by unfold maxLen; omega) (Nat.le_refl _) ?_)
  intro w1 hown hgrow
  have hb1 : Below w.heap.size w w1 := (Below.refl _ _).grown hgrow (Nat.le_refl _) (by simp)
  have hf1 : RowS w1 w.heap.size n [] := by
    rcases hown.2 with ⟨e, _⟩ | ⟨g, cap, cur, e, _, hg, _, _, hs, _⟩
    · cases e
    · injection e with e1 _ e3
      injection e1 with e1
      injection e1 with e1
      subst e1
      exact ⟨cur, hg, by rw [hs]; omega, fun j hj => absurd hj (by simp)⟩
  clear hown hgrow
  generalize hB : w.heap.size = B at *
  have HB := Lib.hid hB
  clear hB
  go_wp2_with fail
  go_loopw [30] (fun i wr => ∃ k : Nat, k ≤ n ∧ i = .int .i64 k ∧ Hid (RowS wr B n ((ts.take k).map (Tm.tidy b))) ∧ Hid (Below B w wr)) (fun i _ => n - (intOf i).toNat)
  case atStart => exact ⟨0, Nat.zero_le _, rfl, hf1, hb1⟩
  case round =>
    obtain ⟨k, hk', rfl, hf, hbl⟩ := hrel
    clear hf1 hb1
    by_cases hlt : k < n
    · have hkt : k < ts.length := by have := HN.out; omega
      obtain ⟨T, x, hc, hC⟩ := hk.out k hkt
      have hcw : wr.cell? ⟨gb, k, none⟩ = some (.iface T x) := (hbl.out.cell (p := ⟨gb, k, none⟩) hgb).trans hc
      have hBw := hf.out.lt
      have HD := Lib.hid (hC wr hbl.out)
      have hLk : ((ts.take k).map (Tm.tidy b)).length = k := by simp; omega
      have HLk := Lib.hid hLk
      clear hc hC hLk
      go_wp2_with (go_at_call 10; refine HD.out.mono ?_; rintro e w5 ⟨rfl, hb5⟩; have hf5 := hf.out.below hb5 hBw; obtain ⟨old, ho⟩ := hf5.cell hlt; have hfr := hf5.frozen k; have HS := hf5.step (by rw [HLk.out]; exact hlt) ((ts[k]'hkt).tidy b); rw [HLk.out] at HS; have HF5 := Lib.hid HS; clear HS hf5; have HB5 := Lib.hid hb5; clear hb5)
      go_roundw
      case rel => exact ⟨k + 1, by omega, by go_num, by rw [Hid, take_snocT ts k hkt, List.map_append]; exact HF5.out, (hbl.out.trans (HB5.out.mono (by omega))).setCell (Nat.le_refl _) _⟩
      case measure => simp [intOf]; omega
    · obtain rfl : k = n := by omega
      have hLk : ((ts.take k).map (Tm.tidy b)) = ts.map (Tm.tidy b) := by rw [List.take_of_length_le (by have := HN.out; omega)]
      have hf' := hf.out
      rw [hLk] at hf'
      have hlt' := hf'.lt
      have hll := tidL_len b ts
      have hml : (ts.map (Tm.tidy b)).length = k := by have := HN.out; simp; omega
      have HF := Lib.hid hf'
      have HML := Lib.hid hml
      clear hf hf' hLk hml
      cases b with
      | true =>
        have HR := Lib.hid (rev_str B k k (ts.map (Tm.tidy true)) wr HF.out HML.out (by omega))
        have HBR := Lib.hid (fun W (hW : RowS W B k (ts.map (Tm.tidy true)).reverse) => brk_any B k k (ts.map (Tm.tidy true)).reverse W hW (by rw [List.length_reverse]; exact HML.out) (by omega) (Nat.le_refl _)
          (by have e := tidys_le ts true; rw [tidys_flat] at e; simp only [if_true] at e; omega))
        clear hll
        go_wp2_with (first
          | (go_at_call 27; refine HR.out.mono ?_; rintro e w5 ⟨rfl, hr5, hb5⟩; have HR5 := Lib.hid hr5; clear hr5)
          | (go_at_call 28; refine (HBR.out _ HR5.out).mono ?_; rintro e w6 ⟨rfl, hb6⟩))
        go_ret
        refine ⟨by rw [Tm.tidy, tidys_flat]; rfl, ?_⟩
        rw [HB.out]
        exact (hbl.out.trans hb5).trans (hb6.mono (by have := hb5.size; omega))
      | false =>
        have HBR := Lib.hid (brk_any B k k (ts.map (Tm.tidy false)) wr HF.out HML.out (by omega) (Nat.le_refl _) (by omega))
        clear hll
        go_wp2_with (go_at_call 28; refine HBR.out.mono ?_; rintro e w6 ⟨rfl, hb6⟩)
        go_ret
        refine ⟨by rw [Tm.tidy, tidys_flat]; rfl, ?_⟩
        rw [HB.out]
        exact hbl.out.trans (hb6.mono (by omega))
theorem tidI_all (m : Nat) : ∀ (t : Tm) (v : Value) (b : Bool) (w : World), t.len ≤ m → t.len ≤ 60 → t.ok → TR w (fun b => b < w.heap.size) t v → Calls Tryz.prog 10 #[v, .bool b] w (RowQ (t.tidy b) w) := by
  induction m with
  | zero => intro t v b w h; have := len_pos t; omega
  | succ m ih =>
    intro t v b w hm h60 hok h
    cases t with
    | L c =>
      rw [Tm.ok] at hok
      rw [TR] at h
      subst h
      rw [Tm.tidy]
      exact tidI_let c hok b w
    | S t =>
      rw [Tm.ok] at hok
      rw [Tm.len] at hm h60
      rw [TR] at h
      obtain ⟨u, rfl, hr⟩ := h
      rw [Tm.tidy]
      exact tidI_sgn u b _ w hr.iface fun W hb => ih t u (!b) W (by omega) (by omega) hok (TR.keep (fun k hk => hb.block k hk) (fun k hk => by have := hb.size; omega) t u hr)
    | B ts =>
      rw [Tm.ok] at hok
      rw [Tm.len] at hm h60
      have hlen := lens_len ts
      obtain ⟨g, c, e0, h1, h2, h3, hk⟩ := h.kid
      subst e0
      refine tidI_brk g c ts b w h3 (by omega) (by omega) fun k hkt => ?_
      obtain ⟨u, hc, hr⟩ := hk k hkt
      obtain ⟨T, x, rfl⟩ := hr.iface
      refine ⟨T, x, hc, fun W hb => ?_⟩
      have hlm := len_mem (List.getElem_mem hkt)
      exact ih _ _ b W (by omega) (by omega) (oks_mem hok.2 _ (List.getElem_mem hkt)) (TR.keep (fun k hk => hb.block k hk) (fun k hk => by have := hb.size; omega) _ _ hr)
end Go.Proofs.YtehadbpbkenccaaGreatDoor
