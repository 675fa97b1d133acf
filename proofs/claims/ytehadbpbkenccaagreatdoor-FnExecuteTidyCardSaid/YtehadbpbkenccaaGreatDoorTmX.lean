/- Rows of strings that the call fills; the library's Join of them; the row of terms in brackets. -/
import Derived.Test.YtehadbpbkenccaaGreatDoorTmW
namespace Go.Proofs.YtehadbpbkenccaaGreatDoor
open Go.ChangeShapes Go.WideShapes Go.ChangeAt Go.RowKit

/-- Block g has n strings; the first ones are those of L. -/
def RowS (w : World) (g n : Nat) (L : List (List UInt8)) : Prop :=
  ∃ cur, w.heap[g]? = some (.cells cur 9 (0, 0)) ∧ cur.size = n ∧ ∀ j (hj : j < L.length), cur[j]? = some (.string (bs L[j]))
section
variable {w w' : World} {g n D : Nat} {L : List (List UInt8)}
theorem RowS.lt (h : RowS w g n L) : g < w.heap.size := by obtain ⟨cur, hg, _⟩ := h; exact (Array.getElem?_eq_some_iff.1 hg).1
theorem RowS.below (h : RowS w g n L) (hb : Below D w w') (hD : g < D) : RowS w' g n L := by
  obtain ⟨cur, hg, hs, hr⟩ := h
  exact ⟨cur, (hb.block g hD).trans hg, hs, hr⟩
theorem RowS.cell (h : RowS w g n L) {j : Nat} (hj : j < n) : ∃ u, w.cell? ⟨g, j, none⟩ = some u := by
  obtain ⟨cur, hg, hs, hr⟩ := h
  refine ⟨cur[j]'(by omega), ?_⟩
  rw [cell_of_row w g j cur _ _ hg]
  exact Array.getElem?_eq_getElem (by omega)
theorem RowS.frozen (h : RowS w g n L) (j : Nat) : w.frozen? ⟨g, j, none⟩ = false := by
  obtain ⟨cur, hg, hs, hr⟩ := h
  exact frozen_of_row w g j cur _ hg
theorem RowS.at_ (h : RowS w g n L) {j : Nat} (hj : j < L.length) : w.cell? ⟨g, j, none⟩ = some (.string (bs L[j])) := by
  obtain ⟨cur, hg, hs, hr⟩ := h
  rw [cell_of_row w g j cur _ _ hg]
  exact hr j hj
theorem RowS.step (h : RowS w g n L) (hL : L.length < n) (l : List UInt8) : RowS (w.setCell ⟨g, L.length, none⟩ (.string (bs l))) g n (L ++ [l]) := by
  obtain ⟨cur, hg, hs, hr⟩ := h
  refine ⟨cur.setIfInBounds L.length (.string (bs l)), heap_setCell_same w g _ cur _ _ hg, by simpa using hs, fun j hj => ?_⟩
  simp at hj
  rw [Array.getElem?_setIfInBounds]
  by_cases e : L.length = j
  · subst e; rw [if_pos rfl, if_pos (by omega)]; simp
  · rw [if_neg e, hr j (by omega)]; simp [List.getElem_append_left (show j < L.length by omega)]
end
theorem str_info : (Tryz.prog.info? 9).map (fun i => (i.zero, i.size, i.bytes)) = some (some (.string ⟨#[]⟩), 1, 16) := by kernel_rfl

theorem join_flat (L : List (List UInt8)) : Lib.join L [] = L.flatten := by
  unfold Lib.join
  induction L with
  | nil => rfl
  | cons a L ih => cases L with
    | nil => simp [List.intercalate]
    | cons b L => simp [List.intercalate, List.intersperse] at ih ⊢; exact ih
theorem join_any (g n c : Nat) (L : List (List UInt8)) (w : World) (h : RowS w g n L) (hL : L.length = n) (hn : n ≤ 1048576) (hc : n ≤ c) (hl : L.flatten.length ≤ 1048576) :
    Calls Tryz.prog 91 #[.slice (some ⟨g, 0, none⟩) n c, .string ⟨#[]⟩] w (RowQ L.flatten w) := by
  subst hL
  have e1 : (L.map bs).map (fun x => x.data.toList) = L := by rw [List.map_map]; exact (List.map_congr_left fun a _ => bs_list a).trans (List.map_id L)
  have := Any.strings_Join Tryz.lays156 Tryz.extra156 g 0 c (L.map bs) ⟨#[]⟩ w (fun j x hx => by
      rw [Nat.zero_add]
      obtain ⟨hj, e⟩ := List.getElem?_eq_some_iff.1 hx
      have hj' : j < L.length := by simpa using hj
      rw [h.at_ hj', ← e]
      simp) h.lt (by simp; omega) (by simpa using hc) (by rw [e1]; show (Lib.join L []).length ≤ _; rw [join_flat]; omega)
  rw [e1, List.length_map] at this
  refine this.mono fun e w' ⟨he, hb⟩ => ⟨?_, hb⟩
  rw [he]
  show _ = Ending.returned (.string (bs L.flatten))
  rw [← join_flat]
  rfl

set_option maxHeartbeats 1000000 in
theorem row_brk (gb c : Nat) (ts : List Tm) (w : World) (hgb : gb < w.heap.size) (hn : ts.length ≤ 60) (hl : (Tm.rows ts).length ≤ 60)
    (hk : ∀ k (hk : k < ts.length), ∃ u, w.cell? ⟨gb, k, none⟩ = some u ∧ ((∃ x, u = .iface 154 (.int .u8 x)) ∨ (∃ y, u = .iface 74 (.agg #[y])) ∨ (∃ a n c, u = .iface 76 (.slice a n c))) ∧
      ∀ W, Below w.heap.size w W → RowC W ts[k].row u) :
    Calls Tryz.prog 242 #[.slice (some ⟨gb, 0, none⟩) ts.length c] w (RowQ (Tm.rows ts) w) := by
  obtain ⟨i0, hi, hz0, hz1, hz2⟩ := info_parts str_info
  have x1 := m_let
  have x2 := m_sgn
  have x3 := m_brk
  have HK := Lib.hid hk
  obtain ⟨n, hN⟩ : ∃ n, n = ts.length := ⟨_, rfl⟩
  have HN := Lib.hid hN
  rw [← hN] at hn ⊢
  clear hk hN
  go_enter Tryz.func242, Tryz.ntmps242
  go_wp2_with (at_make; refine wpList_make_full _ rfl _ _ 47 rfl w.heap.size 9 i0 (.string ⟨#[]⟩) 1 Tryz.underlying47 hi hz0 hz1 .i64 .i64 _ _ n rfl rfl rfl rfl (by rw [hz2]; omega) (by unfold maxLen; omega) (Nat.le_refl _) ?_)
  intro w1 hown hgrow
  have hb1 : Below w.heap.size w w1 := (Below.refl _ _).grown hgrow (Nat.le_refl _) (by simp)
  have hf1 : RowS w1 w.heap.size n [] := by
    rcases hown.2 with ⟨e, _⟩ | ⟨g, cap, cur, e, _, hg, _, _, hs, _⟩
    · cases e
    · injection e with e1 _ e3
      injection e1 with e1
      injection e1 with e1
      subst e1
      exact ⟨cur, hg, by rw [hs]; omega, fun j hj => absurd hj (by simp)⟩
  clear hown hgrow
  generalize hB : w.heap.size = B at *
  have HB := Lib.hid hB
  clear hB
  go_wp2
  go_loopw [11] (fun i wr => ∃ k : Nat, k ≤ n ∧ i = .int .i64 k ∧ Hid (RowS wr B n ((ts.take k).map Tm.row)) ∧ Hid (Below B w wr)) (fun i _ => n - (intOf i).toNat)
  case atStart => exact ⟨0, Nat.zero_le _, rfl, hf1, hb1⟩
  case round =>
    obtain ⟨k, hk, rfl, hf, hbl⟩ := hrel
    clear hf1 hb1
    by_cases hlt : k < n
    · have hkt : k < ts.length := by have := HN.out; omega
      obtain ⟨u, hc, hu, hC⟩ := HK.out k hkt
      have hcw : wr.cell? ⟨gb, k, none⟩ = some u := (hbl.out.cell (p := ⟨gb, k, none⟩) hgb).trans hc
      have hBw := hf.out.lt
      have HC := Lib.hid (hC wr hbl.out)
      have hLk : ((ts.take k).map Tm.row).length = k := by simp; omega
      have HLk := Lib.hid hLk
      clear hc hC
      rcases hu with ⟨x, rfl⟩ | ⟨y, rfl⟩ | ⟨a, m, c', rfl⟩
      · have HD := Lib.hid (HC.out.let_ _ rfl)
        clear HC
        go_wp2_with (go_at_call 345; refine HD.out.mono ?_; rintro e w5 ⟨rfl, hb5⟩; have hf5 := hf.out.below hb5 hBw; obtain ⟨old, ho⟩ := hf5.cell hlt; have hfr := hf5.frozen k; have HS := hf5.step (by rw [hLk]; exact hlt) (ts[k]'hkt).row; rw [hLk] at HS; have HF5 := Lib.hid HS; clear HS hf5; have HB5 := Lib.hid hb5; clear hb5)
        go_roundw
        case rel => exact ⟨k + 1, by omega, by go_num, by rw [Hid, take_snocT ts k hkt, List.map_append]; exact HF5.out, (hbl.out.trans (HB5.out.mono (by omega))).setCell (Nat.le_refl _) _⟩
        case measure => simp [intOf]; omega
      · have HD := Lib.hid (HC.out.sgn_ _ rfl)
        clear HC
        go_wp2_with (go_at_call 340; refine HD.out.mono ?_; rintro e w5 ⟨rfl, hb5⟩; have hf5 := hf.out.below hb5 hBw; obtain ⟨old, ho⟩ := hf5.cell hlt; have hfr := hf5.frozen k; have HS := hf5.step (by rw [hLk]; exact hlt) (ts[k]'hkt).row; rw [hLk] at HS; have HF5 := Lib.hid HS; clear HS hf5; have HB5 := Lib.hid hb5; clear hb5)
        go_roundw
        case rel => exact ⟨k + 1, by omega, by go_num, by rw [Hid, take_snocT ts k hkt, List.map_append]; exact HF5.out, (hbl.out.trans (HB5.out.mono (by omega))).setCell (Nat.le_refl _) _⟩
        case measure => simp [intOf]; omega
      · have HD := Lib.hid (HC.out.brk_ _ _ _ rfl)
        clear HC
        go_wp2_with (go_at_call 242; refine HD.out.mono ?_; rintro e w5 ⟨rfl, hb5⟩; have hf5 := hf.out.below hb5 hBw; obtain ⟨old, ho⟩ := hf5.cell hlt; have hfr := hf5.frozen k; have HS := hf5.step (by rw [hLk]; exact hlt) (ts[k]'hkt).row; rw [hLk] at HS; have HF5 := Lib.hid HS; clear HS hf5; have HB5 := Lib.hid hb5; clear hb5)
        go_roundw
        case rel => exact ⟨k + 1, by omega, by go_num, by rw [Hid, take_snocT ts k hkt, List.map_append]; exact HF5.out, (hbl.out.trans (HB5.out.mono (by omega))).setCell (Nat.le_refl _) _⟩
        case measure => simp [intOf]; omega
    · obtain rfl : k = n := by omega
      have hLk : ((ts.take k).map Tm.row) = ts.map Tm.row := by rw [List.take_of_length_le (by have := HN.out; omega)]
      have hf' := hf.out
      have hf'lt := hf'.lt
      rw [hLk] at hf'
      have HJ := Lib.hid (join_any B k k (ts.map Tm.row) wr hf' (by have := HN.out; simp; omega) (by omega) (Nat.le_refl _) (by rw [← rows_flat]; omega))
      clear hf hf' hLk
      go_wp2_with (go_at_call 91; refine HJ.out.mono ?_; rintro e w5 ⟨rfl, hb5⟩)
      go_ret
      exact ⟨by rw [rows_flat]; rfl, by rw [HB.out]; exact hbl.out.trans (hb5.mono (by have := hf'lt; omega))⟩

theorem row_all (m : Nat) : ∀ (t : Tm) (v : Value) (w : World), t.len ≤ m → t.len ≤ 60 → t.ok → TR w (fun b => b < w.heap.size) t v → RowC w t.row v := by
  induction m with
  | zero => intro t v w h; have := len_pos t; omega
  | succ m ih =>
    intro t v w hm h60 hok h
    cases t with
    | L c =>
      rw [Tm.ok] at hok
      rw [TR] at h
      subst h
      rw [Tm.row]
      refine ⟨fun x e => ?_, fun u e => ?_, fun a n c' e => ?_⟩
      · injection e with _ e
        injection e with _ e
        subst e
        exact row_let c hok w
      · injection e with e _; exact absurd e (by decide)
      · injection e with e _; exact absurd e (by decide)
    | S t =>
      rw [Tm.ok] at hok
      rw [Tm.len] at hm h60
      rw [TR] at h
      obtain ⟨u, rfl, hr⟩ := h
      have hrow := trow_le t
      rw [Tm.row]
      refine ⟨fun x e => ?_, fun u' e => ?_, fun a n c' e => ?_⟩
      · injection e with e _; exact absurd e (by decide)
      · injection e with _ e
        have e' : u = u' := by simpa using e
        subst e'
        have hr' : TR (w.alloc (.cells #[u] 74)) (fun b => b < (w.alloc (.cells #[u] 74)).heap.size) t u :=
          TR.keep (fun k hk => Below.heap_alloc w _ k hk) (fun k hk => by simp; omega) t u hr
        exact row_sgn u t.row (by omega) w hr.cases (ih t u _ (by omega) (by omega) hok hr')
      · injection e with e _; exact absurd e (by decide)
    | B ts =>
      rw [Tm.ok] at hok
      rw [Tm.len] at hm h60
      have hrow := trows_le ts
      have hlen := lens_len ts
      rw [Tm.row]
      obtain ⟨g, c, e0, h1, h2, h3, hk⟩ := h.kid
      subst e0
      refine ⟨fun x e => ?_, fun u' e => ?_, fun a n c' e => ?_⟩
      · injection e with e _; exact absurd e (by decide)
      · injection e with e _; exact absurd e (by decide)
      · injection e with _ e
        injection e with e1 e2 e3
        subst e1; subst e2; subst e3
        refine row_brk g c ts w h3 (by omega) (by omega) fun k hkt => ?_
        obtain ⟨u, hc, hr⟩ := hk k hkt
        refine ⟨u, hc, hr.cases, fun W hb => ?_⟩
        have hlm := len_mem (List.getElem_mem hkt)
        exact ih _ u W (by omega) (by omega) (oks_mem hok.2 _ (List.getElem_mem hkt)) (TR.keep (fun k hk => hb.block k hk) (fun k hk => by have := hb.size; omega) _ _ hr)
theorem row_any {t : Tm} {v : Value} {w : World} (hok : t.ok) (h60 : t.len ≤ 60) (h : TR w (fun b => b < w.heap.size) t v) : RowC w t.row v := row_all t.len t v w (Nat.le_refl _) h60 hok h
end Go.Proofs.YtehadbpbkenccaaGreatDoor
