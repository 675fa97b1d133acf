/- Flat terms, depth, tidy terms: the program's and the model's. -/
import Derived.Test.YtoifdfbhhdedbaaDoorTn1
namespace Go.Proofs.YtoifdfbhhdedbaaDoor
open Go.ChangeShapes Go.WideShapes Go.ChangeAt Go.RowKit

theorem brk_app (l : List UInt8) : (⟨#[40]⟩ : ByteArray) ++ bs l ++ ⟨#[41]⟩ = bs (40 :: (l ++ [41])) := by
  have e1 : (⟨#[40]⟩ : ByteArray) = bs [40] := rfl
  have e2 : (⟨#[41]⟩ : ByteArray) = bs [41] := rfl
  rw [e1, e2, bs_app, bs_app]
  rfl
/-- Texts of terms in brackets. -/
theorem brk_any (g n c : Nat) (L : List (List UInt8)) (w : World) (h : RowS w g n L) (hL : L.length = n) (hn : n ≤ 1048576) (hc : n ≤ c) (hl : L.flatten.length ≤ 1048576) :
    Calls Tryd.prog 50 #[.slice (some ⟨g, 0, none⟩) n c] w (RowQ (40 :: (L.flatten ++ [41])) w) := by
  have HJ := Lib.hid (join_any g n c L w h hL hn hc hl)
  obtain ⟨q, hq⟩ : ∃ q, q = bs L.flatten := ⟨_, rfl⟩
  have hqs : q.size ≤ 1048576 := by rw [hq, bs_size]; exact hl
  have HQ := Lib.hid hq
  clear hq h hL hl
  go_enter Tryd.func50, Tryd.ntmps50
  go_wp2_with (go_at_call 65; refine HJ.out.mono ?_; rintro e w1 ⟨rfl, hb1⟩; rw [← HQ.out])
  go_ret
  exact ⟨by rw [← brk_app, ← HQ.out]; rfl, hb1⟩
theorem one_row (W : World) (l : List UInt8) : RowS (W.alloc (.cells #[.string (bs l)] 9)) W.heap.size 1 [l] :=
  ⟨_, heap_alloc_new W _, rfl, fun j hj => by obtain rfl : j = 0 := by simp at hj; omega
                                              rfl⟩
/-- A number is handed back. -/
def DepQ (d : Nat) (w : World) (e : Ending) (w' : World) : Prop := e = .returned (.int .i64 (d : Int)) ∧ Below w.heap.size w w'
theorem dep_take (ts : List Tm) (k : Nat) (h : k < ts.length) : Tm.deps (ts.take (k + 1)) = max (Tm.deps (ts.take k)) ts[k].dep := by rw [take_snocT ts k h, deps_snoc]
theorem deps_take_le (ts : List Tm) (k : Nat) : Tm.deps (ts.take k) ≤ Tm.lens ts := Nat.le_trans (deps_le _) (lens_take ts k)

/-! ### What a type switch finds -/
theorem ta_ls (x : Int) (w : World) : (Instr.typeAssert (.iface 108 (.int .u8 x)) 37 76 true).run Tryd.prog w = .ok (.tuple #[.agg #[.nilIface], .bool false]) w := by kernel_rfl
theorem ta_lb (x : Int) (w : World) : (Instr.typeAssert (.iface 108 (.int .u8 x)) 37 78 true).run Tryd.prog w = .ok (.tuple #[.slice none 0 0, .bool false]) w := by kernel_rfl
theorem ta_ss (u : Value) (w : World) : (Instr.typeAssert (.iface 76 (.agg #[u])) 37 76 true).run Tryd.prog w = .ok (.tuple #[.agg #[u], .bool true]) w := by kernel_rfl
theorem ta_bs (a : Option Addr) (n c : Nat) (w : World) : (Instr.typeAssert (.iface 78 (.slice a n c)) 37 76 true).run Tryd.prog w = .ok (.tuple #[.agg #[.nilIface], .bool false]) w := by kernel_rfl
theorem ta_bb (a : Option Addr) (n c : Nat) (w : World) : (Instr.typeAssert (.iface 78 (.slice a n c)) 37 78 true).run Tryd.prog w = .ok (.tuple #[.slice a n c, .bool true]) w := by kernel_rfl

set_option maxRecDepth 10000 in
theorem depI_let (x : Int) (w : World) : Calls Tryd.prog 35 #[.iface 108 (.int .u8 x)] w (DepQ 0 w) := by
  have y1 := ta_ls
  have y2 := ta_lb
  go_enter Tryd.func35, Tryd.ntmps35
  go_wp2_with fail
  go_ret
  exact ⟨rfl, Below.refl _ _⟩
set_option maxRecDepth 10000 in
theorem depI_sgn (u : Value) (d : Nat) (w : World) (hu : ∃ T x, u = .iface T x)
    (HC : Hid (∀ W, Below w.heap.size w W → Calls Tryd.prog 35 #[u] W (DepQ d W))) : Calls Tryd.prog 35 #[.iface 76 (.agg #[u])] w (DepQ d w) := by
  obtain ⟨T, x, rfl⟩ := hu
  have y1 := ta_ss
  go_enter Tryd.func35, Tryd.ntmps35
  go_wp2_with fail
  have hb := (Below.refl w.heap.size w).alloc (Nat.le_refl _) (.cells #[.iface T x] 76)
  refine (HC.out _ hb).mono ?_
  rintro e w1 ⟨rfl, hb1⟩
  go_wp2_with fail
  go_ret
  exact ⟨rfl, hb.trans (hb1.mono (by simp))⟩
set_option maxRecDepth 10000 in
set_option maxHeartbeats 1000000 in
theorem depI_brk (gb c : Nat) (ts : List Tm) (w : World) (hgb : gb < w.heap.size) (hn : ts.length ≤ 60) (hl : Tm.lens ts ≤ 60)
    (hk : Hid (∀ k (hk : k < ts.length), ∃ T x, w.cell? ⟨gb, k, none⟩ = some (.iface T x) ∧ ∀ W, Below w.heap.size w W → Calls Tryd.prog 35 #[.iface T x] W (DepQ ts[k].dep W))) :
    Calls Tryd.prog 35 #[.iface 78 (.slice (some ⟨gb, 0, none⟩) ts.length c)] w (DepQ (Tm.deps ts + 1) w) := by
  have y1 := ta_bs
  have y2 := ta_bb
  obtain ⟨n, hN⟩ : ∃ n, n = ts.length := ⟨_, rfl⟩
  have HN := Lib.hid hN
  rw [← hN] at hn ⊢
  clear hN
  go_enter Tryd.func35, Tryd.ntmps35
  go_wp2_with fail
  go_loopw [5, 21] (fun m i wr => ∃ (k d : Nat), k ≤ n ∧ i = .int .i64 k ∧ m = .int .i64 (d : Int) ∧ Hid (d = Tm.deps (ts.take k)) ∧ d ≤ 60 ∧ Hid (Below w.heap.size w wr)) (fun _ i _ => n - (intOf i).toNat)
  case atStart => exact ⟨0, 0, Nat.zero_le _, rfl, rfl, rfl, by decide, Below.refl _ _⟩
  case round =>
    obtain ⟨k, d, hk', rfl, rfl, hd, hd60, hbl⟩ := hrel
    by_cases hlt : k < n
    · have hkt : k < ts.length := by have := HN.out; omega
      obtain ⟨T, x, hc, hC⟩ := hk.out k hkt
      have hcw : wr.cell? ⟨gb, k, none⟩ = some (.iface T x) := (hbl.out.cell (p := ⟨gb, k, none⟩) hgb).trans hc
      have HC := Lib.hid (hC wr hbl.out)
      obtain ⟨d2, hd2⟩ : ∃ d2, d2 = (ts[k]'hkt).dep := ⟨_, rfl⟩
      rw [← hd2] at HC
      have h260 : d2 ≤ 60 := by have := dep_le (ts[k]'hkt); have := len_mem (List.getElem_mem hkt); omega
      have HD2 : Hid (max d d2 = Tm.deps (ts.take (k + 1))) := by rw [Hid, dep_take ts k hkt, ← hd2, ← hd.out]
      clear hc hC hd2
      go_wp2_with (go_at_call 35; refine HC.out.mono ?_; rintro e w5 ⟨rfl, hb5⟩)
      go_roundw
      case rel => exact ⟨k + 1, max d d2, by omega, by go_num, by first | rfl | go_num | (congr 1; omega), HD2, by omega, hbl.out.trans (hb5.mono hbl.out.size)⟩
      case measure => simp [intOf]; omega
    · obtain rfl : k = n := by omega
      have e : Tm.deps (ts.take k) = Tm.deps ts := by rw [List.take_of_length_le (by have := HN.out; omega)]
      have hd' := hd.out
      rw [e] at hd'
      have HD := Lib.hid hd'
      clear hd' hd e
      go_wp2_with fail
      go_ret
      exact ⟨by rw [← HD.out]; rfl, hbl.out⟩
theorem depI_all (m : Nat) : ∀ (t : Tm) (v : Value) (w : World), t.len ≤ m → t.len ≤ 60 → t.ok → TR w (fun b => b < w.heap.size) t v → Calls Tryd.prog 35 #[v] w (DepQ t.dep w) := by
  induction m with
  | zero => intro t v w h; have := len_pos t; omega
  | succ m ih =>
    intro t v w hm h60 hok h
    cases t with
    | L c =>
      rw [TR] at h
      subst h
      rw [Tm.dep]
      exact depI_let _ w
    | S t =>
      rw [Tm.ok] at hok
      rw [Tm.len] at hm h60
      rw [TR] at h
      obtain ⟨u, rfl, hr⟩ := h
      rw [Tm.dep]
      exact depI_sgn u _ w hr.iface fun W hb => ih t u W (by omega) (by omega) hok (TR.keep (fun k hk => hb.block k hk) (fun k hk => by have := hb.size; omega) t u hr)
    | B ts =>
      rw [Tm.ok] at hok
      rw [Tm.len] at hm h60
      have hlen := lens_len ts
      rw [Tm.dep]
      obtain ⟨g, c, e0, h1, h2, h3, hk⟩ := h.kid
      subst e0
      refine depI_brk g c ts w h3 (by omega) (by omega) fun k hkt => ?_
      obtain ⟨u, hc, hr⟩ := hk k hkt
      obtain ⟨T, x, rfl⟩ := hr.iface
      refine ⟨T, x, hc, fun W hb => ?_⟩
      have hlm := len_mem (List.getElem_mem hkt)
      exact ih _ _ W (by omega) (by omega) (oks_mem hok.2 _ (List.getElem_mem hkt)) (TR.keep (fun k hk => hb.block k hk) (fun k hk => by have := hb.size; omega) _ _ hr)

theorem dep_kids (t : Tm) (hok : t.ok) : t.dep = Tm.deps t.kids + if t.sig = 40 then 1 else 0 := by
  cases t with
  | L c =>
    rw [Tm.ok] at hok
    have : c ≠ 40 := fun e => by subst e; exact absurd hok (by decide)
    simp [Tm.dep, Tm.kids, Tm.deps, Tm.sig, this]
  | S t => simp [Tm.dep, Tm.kids, Tm.deps, Tm.sig]
  | B ts => simp [Tm.dep, Tm.kids, Tm.sig]
theorem kids_lens (t : Tm) : Tm.lens t.kids < t.len := by cases t <;> simp [Tm.kids, Tm.lens, Tm.len] <;> omega
theorem kids_ok (t : Tm) (hok : t.ok) : Tm.oks t.kids := by
  cases t with
  | L c => simp [Tm.kids, Tm.oks]
  | S t => rw [Tm.ok] at hok; simp [Tm.kids, Tm.oks, hok]
  | B ts => rw [Tm.ok] at hok; exact hok.2
def IntQ (d : Nat) (ok : Bool) (w : World) (e : Ending) (w' : World) : Prop := e = .returned (.tuple #[.int .i64 (d : Int), .bool ok]) ∧ Below w.heap.size w w'
attribute [local go_sem ↓] ldR_fold stR_fold in
theorem deepI_no (s : ByteArray) (w : World) (hand : Hand w) (hs : s.size ≤ 1048576) (h : ringT s.data.toList = none) : Calls Tryd.prog 22 #[.string s] w (IntQ 0 false w) := by
  have HD := Lib.hid ((rrNo7 s hs h).out w hand)
  clear h
  go_enter Tryd.func22, Tryd.ntmps22
  go_wp2_with (go_at_call 24; refine HD.out.mono ?_; rintro e w1 ⟨rfl, hb1⟩; obtain ⟨W2, r2, a2, b2⟩ := put7 w1 (-1) (-1) (-1) (-1) (-1) (-1) (-1))
  go_ret2
  exact ⟨rfl, hb1.trans (b2.out.mono hb1.size)⟩
attribute [local go_sem ↓] ldR_fold stR_fold in
theorem deepI_yes (s : ByteArray) (w : World) (hand : Hand w) (hs : s.size ≤ 1048576) (t : Tm) (h : ringT s.data.toList = some t) : Calls Tryd.prog 22 #[.string s] w (IntQ t.dep true w) := by
  obtain ⟨hok, hlen, h60⟩ := rdT_ok (ringT_ok h).1
  obtain ⟨q0, q1, q2, q3, q4, q5, q6, hQ, HC⟩ := rrYes7 s hs t h
  have HD := Lib.hid (HC.out w hand)
  have HRW : Hid (∀ (v : Value) (W : World), TR W (fun b => b < W.heap.size) t v → Calls Tryd.prog 35 #[v] W (DepQ t.dep W)) := fun v W hv => depI_all t.len t v W (Nat.le_refl _) (by omega) hok hv
  clear HC h hok hlen h60
  go_enter Tryd.func22, Tryd.ntmps22
  go_wp2_with fail
  refine HD.out.mono ?_
  rintro e w1 ⟨v, rfl, ht, hb1⟩
  obtain ⟨W2, r2, a2, b2⟩ := put7 w1 q0 q1 q2 q3 q4 q5 q6
  have HRC := Lib.hid (HRW.out v W2 (TR.keep (fun k hk => b2.out.block k hk) (fun k hk => by have := b2.out.size; omega) _ _ ht))
  have HB2 := Lib.hid (hb1.trans (b2.out.mono hb1.size))
  obtain ⟨T, x, rfl⟩ := ht.iface
  clear HRW ht hb1 HD a2 b2
  go_wp2_with (go_at_call 35; refine HRC.out.mono ?_; rintro e w3 ⟨rfl, hb3⟩)
  go_ret2
  exact ⟨rfl, HB2.out.trans (hb3.mono HB2.out.size)⟩
section
open Go.Sort

/-! ### The program's -/
theorem rowS_holds {w : World} {g n : Nat} {L : List (List UInt8)} (h : RowS w g n L) : Holds encStr w g 0 L.toArray := by
  intro j hj
  have hj' : j < L.length := by simpa using hj
  rw [Nat.zero_add]
  refine ⟨?_, h.frozen j⟩
  rw [h.at_ hj']
  simp [getElem!_pos, hj', encStr, bs]
theorem rev_str (g n c : Nat) (L : List (List UInt8)) (w : World) (h : RowS w g n L) (hL : L.length = n) (hn : n ≤ 1048576) :
    Calls Tryd.prog 49 #[.slice (some ⟨g, 0, none⟩) n c] w fun e w' => e = .returned (.tuple #[]) ∧ RowS w' g n L.reverse ∧ Below g w w' := by
  subst hL
  have hlt := h.lt
  obtain ⟨cur, hg, hs, hr⟩ := id h
  refine (Any.slices_Reverse_string Tryd.lays217 g 0 c L w (rowS_holds h) (by omega)).mono fun e w' ⟨he, q, hw⟩ => ⟨he, ?_, ?_⟩
  · subst hw
    refine ⟨Sort.putCells encStr 0 L.reverse.toArray cur, ?_, ?_, fun j hj => ?_⟩
    · simp [putRow, mapBlock, Array.getElem?_modify, onCells]
      exact ⟨_, hg, rfl⟩
    · simp [Sort.putCells, hs]
    · have hj' : j < cur.size := by rw [hs]; simpa using hj
      have hj2 : j < L.length := by simpa using hj
      have e : cur[j]? = some cur[j] := Array.getElem?_eq_getElem hj'
      simp [Sort.putCells, e, hj2, encStr, bs]
  · subst hw
    refine ⟨rfl, rfl, rfl, by simp [putRow, mapBlock, Sort.ahead], fun k hk => ?_⟩
    simp [putRow, mapBlock, Sort.ahead, Array.getElem?_modify]
    omega

set_option maxRecDepth 10000 in
theorem tidI_let (c : UInt8) (hL : isL c = true) (b : Bool) (w : World) : Calls Tryd.prog 33 #[.iface 108 (.int .u8 (c.toNat : Int)), .bool b] w (RowQ [c] w) := by
  have y1 := ta_ls
  have y2 := ta_lb
  have x1 := m_let
  have HC := Lib.hid (row_let c hL w)
  clear hL
  go_enter Tryd.func33, Tryd.ntmps33
  go_wp2_with (go_at_call 104; refine HC.out.mono ?_; rintro e w1 ⟨rfl, hb1⟩)
  go_ret
  exact ⟨rfl, hb1⟩
set_option maxRecDepth 10000 in
theorem tidI_sgn (u : Value) (b : Bool) (l : List UInt8) (w : World) (hu : ∃ T x, u = .iface T x)
    (HC : Hid (∀ W, Below w.heap.size w W → Calls Tryd.prog 33 #[u, .bool (!b)] W (RowQ l W))) : Calls Tryd.prog 33 #[.iface 76 (.agg #[u]), .bool b] w (RowQ l w) := by
  obtain ⟨T, x, rfl⟩ := hu
  have y1 := ta_ss
  go_enter Tryd.func33, Tryd.ntmps33
  go_wp2_with fail
  have hb := (Below.refl w.heap.size w).alloc (Nat.le_refl _) (.cells #[.iface T x] 76)
  refine (HC.out _ hb).mono ?_
  rintro e w1 ⟨rfl, hb1⟩
  go_wp2_with fail
  go_ret
  exact ⟨rfl, hb.trans (hb1.mono (by simp))⟩
theorem tidL_len (b : Bool) (ts : List Tm) : ((ts.map (Tm.tidy b)).flatten).length ≤ Tm.lens ts := by
  have h1 := tidys_le ts b
  rw [tidys_flat] at h1
  cases b
  · simpa using h1
  · simpa [List.length_flatten, List.map_reverse, List.sum_reverse] using h1
set_option maxRecDepth 10000 in
set_option maxHeartbeats 1000000 in
theorem tidI_brk (gb c : Nat) (ts : List Tm) (b : Bool) (w : World) (hgb : gb < w.heap.size) (hn : ts.length ≤ 60) (hl : Tm.lens ts ≤ 60)
    (hk : Hid (∀ k (hk : k < ts.length), ∃ T x, w.cell? ⟨gb, k, none⟩ = some (.iface T x) ∧ ∀ W, Below w.heap.size w W → Calls Tryd.prog 33 #[.iface T x, .bool b] W (RowQ (ts[k].tidy b) W))) :
    Calls Tryd.prog 33 #[.iface 78 (.slice (some ⟨gb, 0, none⟩) ts.length c), .bool b] w (RowQ ((Tm.B ts).tidy b) w) := by
  obtain ⟨i0, hi, hz0, hz1, hz2⟩ := info_parts str_info
  have y1 := ta_bs
  have y2 := ta_bb
  obtain ⟨n, hN⟩ : ∃ n, n = ts.length := ⟨_, rfl⟩
  have HN := Lib.hid hN
  rw [← hN] at hn ⊢
  clear hN
  go_enter Tryd.func33, Tryd.ntmps33
  go_wp2_with (at_make; refine wpList_make_full _ rfl _ _ 79 rfl w.heap.size 9 i0 (.string ⟨#[]⟩) 1 Tryd.underlying79 hi hz0 hz1 .i64 .i64 _ _ n rfl rfl rfl rfl (by rw [hz2]; omega) (by unfold maxLen; omega) (Nat.le_refl _) ?_)
  intro w1 hown hgrow
  have hb1 : Below w.heap.size w w1 := (Below.refl _ _).grown hgrow (Nat.le_refl _) (by simp)
  have hf1 : RowS w1 w.heap.size n [] := by
    rcases hown.2 with ⟨e, _⟩ | ⟨g, cap, cur, e, _, hg, _, _, hs, _⟩
    · cases e
    · injection e with e1 _ e3
      injection e1 with e1
      injection e1 with e1
      subst e1
      exact ⟨cur, hg, by rw [hs]; omega, fun j hj => absurd hj (by simp)⟩
  clear hown hgrow
  generalize hB : w.heap.size = B at *
  have HB := Lib.hid hB
  clear hB
  go_wp2_with fail
  go_loopw [30] (fun i wr => ∃ k : Nat, k ≤ n ∧ i = .int .i64 k ∧ Hid (RowS wr B n ((ts.take k).map (Tm.tidy b))) ∧ Hid (Below B w wr)) (fun i _ => n - (intOf i).toNat)
  case atStart => exact ⟨0, Nat.zero_le _, rfl, hf1, hb1⟩
  case round =>
    obtain ⟨k, hk', rfl, hf, hbl⟩ := hrel
    clear hf1 hb1
    by_cases hlt : k < n
    · have hkt : k < ts.length := by have := HN.out; omega
      obtain ⟨T, x, hc, hC⟩ := hk.out k hkt
      have hcw : wr.cell? ⟨gb, k, none⟩ = some (.iface T x) := (hbl.out.cell (p := ⟨gb, k, none⟩) hgb).trans hc
      have hBw := hf.out.lt
      have HD := Lib.hid (hC wr hbl.out)
      have hLk : ((ts.take k).map (Tm.tidy b)).length = k := by simp; omega
      have HLk := Lib.hid hLk
      clear hc hC hLk
      go_wp2_with (go_at_call 33; refine HD.out.mono ?_; rintro e w5 ⟨rfl, hb5⟩; have hf5 := hf.out.below hb5 hBw; obtain ⟨old, ho⟩ := hf5.cell hlt; have hfr := hf5.frozen k; have HS := hf5.step (by rw [HLk.out]; exact hlt) ((ts[k]'hkt).tidy b); rw [HLk.out] at HS; have HF5 := Lib.hid HS; clear HS hf5; have HB5 := Lib.hid hb5; clear hb5)
      go_roundw
      case rel => exact ⟨k + 1, by omega, by go_num, by rw [Hid, take_snocT ts k hkt, List.map_append]; exact HF5.out, (hbl.out.trans (HB5.out.mono (by omega))).setCell (Nat.le_refl _) _⟩
      case measure => simp [intOf]; omega
    · obtain rfl : k = n := by omega
      have hLk : ((ts.take k).map (Tm.tidy b)) = ts.map (Tm.tidy b) := by rw [List.take_of_length_le (by have := HN.out; omega)]
      have hf' := hf.out
      rw [hLk] at hf'
      have hlt' := hf'.lt
      have hll := tidL_len b ts
      have hml : (ts.map (Tm.tidy b)).length = k := by have := HN.out; simp; omega
      have HF := Lib.hid hf'
      have HML := Lib.hid hml
      clear hf hf' hLk hml
      cases b with
      | true =>
        have HR := Lib.hid (rev_str B k k (ts.map (Tm.tidy true)) wr HF.out HML.out (by omega))
        have HBR := Lib.hid (fun W (hW : RowS W B k (ts.map (Tm.tidy true)).reverse) => brk_any B k k (ts.map (Tm.tidy true)).reverse W hW (by rw [List.length_reverse]; exact HML.out) (by omega) (Nat.le_refl _)
          (by have e := tidys_le ts true; rw [tidys_flat] at e; simp only [if_true] at e; omega))
        clear hll
        go_wp2_with (first
          | (go_at_call 49; refine HR.out.mono ?_; rintro e w5 ⟨rfl, hr5, hb5⟩; have HR5 := Lib.hid hr5; clear hr5)
          | (go_at_call 50; refine (HBR.out _ HR5.out).mono ?_; rintro e w6 ⟨rfl, hb6⟩))
        go_ret
        refine ⟨by rw [Tm.tidy, tidys_flat]; rfl, ?_⟩
        rw [HB.out]
        exact (hbl.out.trans hb5).trans (hb6.mono (by have := hb5.size; omega))
      | false =>
        have HBR := Lib.hid (brk_any B k k (ts.map (Tm.tidy false)) wr HF.out HML.out (by omega) (Nat.le_refl _) (by omega))
        clear hll
        go_wp2_with (go_at_call 50; refine HBR.out.mono ?_; rintro e w6 ⟨rfl, hb6⟩)
        go_ret
        refine ⟨by rw [Tm.tidy, tidys_flat]; rfl, ?_⟩
        rw [HB.out]
        exact hbl.out.trans (hb6.mono (by omega))
theorem tidI_all (m : Nat) : ∀ (t : Tm) (v : Value) (b : Bool) (w : World), t.len ≤ m → t.len ≤ 60 → t.ok → TR w (fun b => b < w.heap.size) t v → Calls Tryd.prog 33 #[v, .bool b] w (RowQ (t.tidy b) w) := by
  induction m with
  | zero => intro t v b w h; have := len_pos t; omega
  | succ m ih =>
    intro t v b w hm h60 hok h
    cases t with
    | L c =>
      rw [Tm.ok] at hok
      rw [TR] at h
      subst h
      rw [Tm.tidy]
      exact tidI_let c hok b w
    | S t =>
      rw [Tm.ok] at hok
      rw [Tm.len] at hm h60
      rw [TR] at h
      obtain ⟨u, rfl, hr⟩ := h
      rw [Tm.tidy]
      exact tidI_sgn u b _ w hr.iface fun W hb => ih t u (!b) W (by omega) (by omega) hok (TR.keep (fun k hk => hb.block k hk) (fun k hk => by have := hb.size; omega) t u hr)
    | B ts =>
      rw [Tm.ok] at hok
      rw [Tm.len] at hm h60
      have hlen := lens_len ts
      obtain ⟨g, c, e0, h1, h2, h3, hk⟩ := h.kid
      subst e0
      refine tidI_brk g c ts b w h3 (by omega) (by omega) fun k hkt => ?_
      obtain ⟨u, hc, hr⟩ := hk k hkt
      obtain ⟨T, x, rfl⟩ := hr.iface
      refine ⟨T, x, hc, fun W hb => ?_⟩
      have hlm := len_mem (List.getElem_mem hkt)
      exact ih _ _ b W (by omega) (by omega) (oks_mem hok.2 _ (List.getElem_mem hkt)) (TR.keep (fun k hk => hb.block k hk) (fun k hk => by have := hb.size; omega) _ _ hr)
end

theorem tidM_let (c : UInt8) (h : isL c = true) (b : Value) (bk : Bool) (w : World) : Calls Tryd.prog 34 #[.agg #[.int .u8 (c.toNat : Int), b], .bool bk] w (RowM [c] w) := by
  obtain ⟨h1, h2⟩ : 97 ≤ c.toNat ∧ c.toNat ≤ 103 := by simpa [isL] using h
  have e1 : ((c.toNat : Int) == 45) = false := by simp; omega
  have e2 : ((c.toNat : Int) != 40) = true := by simp; omega
  have hcv : (convert 22 9 (.slice (some ⟨w.heap.size + 1, 0, none⟩) 1 1)).run Tryd.prog ((w.alloc (.cells #[.int .u8 (c.toNat : Int), b] 44)).alloc (.cells #[.int .u8 (c.toNat : Int)] 5)) = .ok (.string (bs [c])) ((w.alloc (.cells #[.int .u8 (c.toNat : Int), b] 44)).alloc (.cells #[.int .u8 (c.toNat : Int)] 5)) := by
    simpa using of8 (one8 (w.alloc (.cells #[.int .u8 (c.toNat : Int), b] 44)) c) 1
  have HB := Lib.hid (((Below.refl w.heap.size w).alloc (Nat.le_refl _) (.cells #[.int .u8 (c.toNat : Int), b] 44)).alloc (by simp) (.cells #[.int .u8 (c.toNat : Int)] 5))
  go_enter Tryd.func34, Tryd.ntmps34
  go_wp2_with fail
  go_ret
  exact ⟨rfl, HB.out⟩

attribute [local go_sem ↓] ld9_fold st9_fold in
theorem tidM_sgn (g d : Nat) (x y : Value) (l : List UInt8) (bk : Bool) (w : World) (hg : g < w.heap.size) (h0 : w.cell? ⟨g, 0, none⟩ = some x) (h1 : w.cell? ⟨g, 1, none⟩ = some y)
    (HC : Hid (∀ W, Below w.heap.size w W → Calls Tryd.prog 34 #[.agg #[x, y], .bool (!bk)] W (RowM l W))) :
    Calls Tryd.prog 34 #[.agg #[.int .u8 45, .slice (some ⟨g, 0, none⟩) 1 d], .bool bk] w (RowM l w) := by
  have hb := (Below.refl w.heap.size w).alloc (Nat.le_refl _) (.cells #[.int .u8 45, .slice (some ⟨g, 0, none⟩) 1 d] 44)
  have HD := Lib.hid (HC.out _ hb)
  have HL := ld9_at ((hb.cell (p := ⟨g, 0, none⟩) hg).trans h0) ((hb.cell (p := ⟨g, 1, none⟩) hg).trans h1)
  have HB := Lib.hid hb
  clear HC hb h0 h1
  go_enter Tryd.func34, Tryd.ntmps34
  go_wp2_with (go_at_call 34; refine HD.out.mono ?_; rintro e w1 ⟨rfl, hb1⟩)
  go_ret
  exact ⟨rfl, HB.out.trans (hb1.mono (by simp))⟩

attribute [local go_sem ↓] ld9_fold st9_fold in
set_option maxHeartbeats 1000000 in
theorem tidM_brk (A : Option Addr) (d : Nat) (ts : List Tm) (bk : Bool) (w : World) (h60 : Tm.lens ts ≤ 58) (hn60 : ts.length ≤ 60)
    (HC : Hid (∀ k (hk : k < ts.length), ∃ g x y, A = some ⟨g, 0, none⟩ ∧ g < w.heap.size ∧ w.cell? ⟨g, k * 2, none⟩ = some x ∧ w.cell? ⟨g, k * 2 + 1, none⟩ = some y ∧
      ∀ W, Below w.heap.size w W → Calls Tryd.prog 34 #[.agg #[x, y], .bool bk] W (RowM (ts[k].tidy bk) W))) :
    Calls Tryd.prog 34 #[.agg #[.int .u8 40, .slice A ts.length d], .bool bk] w (RowM ((Tm.B ts).tidy bk) w) := by
  obtain ⟨n, hn⟩ : ∃ n, n = ts.length := ⟨_, rfl⟩
  rw [← hn] at hn60 ⊢
  have HN := Lib.hid hn
  clear hn
  have hb := (Below.refl w.heap.size w).alloc (Nat.le_refl _) (.cells #[.int .u8 40, .slice A n d] 44)
  have hc0 : (w.alloc (.cells #[.int .u8 40, .slice A n d] 44)).cell? ⟨w.heap.size, 0, none⟩ = some (.int .u8 40) := by simp
  have hc1 : (w.alloc (.cells #[.int .u8 40, .slice A n d] 44)).cell? ⟨w.heap.size, 1, none⟩ = some (.slice A n d) := by simp
  have HB := Lib.hid hb
  have HC0 := Lib.hid hc0
  have HC1 := Lib.hid hc1
  clear hb hc0 hc1
  go_enter Tryd.func34, Tryd.ntmps34
  go_wp2_with fail
  obtain ⟨W0, hW⟩ : ∃ W, W = w.alloc (.cells #[.int .u8 40, .slice A n d] 44) := ⟨_, rfl⟩
  rw [← hW] at HB HC0 HC1 ⊢
  have HW0 : Hid (W0.heap.size = w.heap.size + 1) := by rw [hW]; simp [Hid]
  clear hW
  go_loopw [5, 6] (fun o i wr => ∃ (k : Nat) (ob : ByteArray), k ≤ n ∧ i = .int .i64 k ∧ o = .string ob ∧ Hid (ob = bs (Tm.tidys bk (ts.take k))) ∧ ob.size ≤ 60 ∧ Hid (Below W0.heap.size W0 wr)) (fun _ i _ => n - (intOf i).toNat)
  case atStart => exact ⟨0, _, Nat.zero_le _, rfl, rfl, by simp [Hid, Tm.tidys, bs], by decide, Below.refl _ _⟩
  case round =>
    obtain ⟨k, ob, hk, rfl, rfl, HO, hos, HBL⟩ := hrel
    have c0 := (HBL.out.cell (p := ⟨w.heap.size, 0, none⟩) (by have := HW0.out; show w.heap.size < _; omega)).trans HC0.out
    have c1 := (HBL.out.cell (p := ⟨w.heap.size, 1, none⟩) (by have := HW0.out; show w.heap.size < _; omega)).trans HC1.out
    by_cases hlt : k < n
    · have hkt : k < ts.length := by have := HN.out; omega
      have hbw := HB.out.trans (HBL.out.mono (by have := HW0.out; omega))
      obtain ⟨g, x, y, rfl, hg, hx, hy, hC⟩ := HC.out k hkt
      have HL := ld9_at ((hbw.cell (p := ⟨g, k * 2, none⟩) hg).trans hx) ((hbw.cell (p := ⟨g, k * 2 + 1, none⟩) hg).trans hy)
      have HSZ : Hid (ob.size + ((ts[k]'hkt).tidy bk).length ≤ 58) := by
        rw [Hid, HO.out, bs_size]
        have h1 := tidys_le (ts.take (k + 1)) bk
        have h2 := lens_take ts (k + 1)
        rw [take_snocT ts k hkt, tidys_snoc] at h1
        split at h1 <;> simp at h1 <;> omega
      have hl60 : ((ts[k]'hkt).tidy bk).length ≤ 60 := by have := HSZ.out; omega
      clear hx hy
      cases bk with
      | true =>
        have HD := Lib.hid (hC wr hbw)
        clear hC hbw
        go_wp2_with (go_at_call 34; refine HD.out.mono ?_; rintro e w5 ⟨rfl, hb5⟩; obtain ⟨r, hr⟩ : ∃ r, r = bs ((ts[k]'hkt).tidy true) := ⟨_, rfl⟩; rw [← hr]; have hrs : r.size ≤ 60 := (by rw [hr, bs_size]; exact hl60); have HR := Lib.hid hr; clear hr)
        go_roundw
        case rel =>
          refine ⟨k + 1, _, by omega, by go_num, rfl, ?_, ?_, HBL.out.trans (hb5.mono HBL.out.size)⟩
          · rw [Hid, HR.out, HO.out, bs_app, take_snocT ts k hkt, tidys_snoc]; rfl
          · have h1 := HSZ.out
            have h2 := congrArg ByteArray.size HR.out
            rw [bs_size] at h2
            rw [ByteArray.size_append]; omega
        case measure => simp [intOf]; omega
      | false =>
        have HD := Lib.hid (hC wr hbw)
        clear hC hbw
        go_wp2_with (go_at_call 34; refine HD.out.mono ?_; rintro e w5 ⟨rfl, hb5⟩; obtain ⟨r, hr⟩ : ∃ r, r = bs ((ts[k]'hkt).tidy false) := ⟨_, rfl⟩; rw [← hr]; have hrs : r.size ≤ 60 := (by rw [hr, bs_size]; exact hl60); have HR := Lib.hid hr; clear hr)
        go_roundw
        case rel =>
          refine ⟨k + 1, _, by omega, by go_num, rfl, ?_, ?_, HBL.out.trans (hb5.mono HBL.out.size)⟩
          · rw [Hid, HR.out, HO.out, bs_app, take_snocT ts k hkt, tidys_snoc]; rfl
          · have h1 := HSZ.out
            have h2 := congrArg ByteArray.size HR.out
            rw [bs_size] at h2
            rw [ByteArray.size_append]; omega
        case measure => simp [intOf]; omega
    · obtain rfl : k = n := by omega
      have e : Tm.tidys bk (ts.take k) = Tm.tidys bk ts := by rw [List.take_of_length_le (by have := HN.out; omega)]
      have HOE : Hid (ob = bs (Tm.tidys bk ts)) := by rw [Hid, HO.out, e]
      clear e
      go_wp2_with fail
      go_ret
      exact ⟨by rw [Tm.tidy, ← brk_app, ← HOE.out]; rfl, HB.out.trans (HBL.out.mono (by have := HW0.out; omega))⟩
theorem tidM_all (m : Nat) : ∀ (t : Tm) (a b : Value) (bk : Bool) (w : World), t.len ≤ m → t.len ≤ 60 → t.ok → TS w (fun k => k < w.heap.size) t a b → Calls Tryd.prog 34 #[.agg #[a, b], .bool bk] w (RowM (t.tidy bk) w) := by
  induction m with
  | zero => intro t a b bk w h; have := len_pos t; omega
  | succ m ih =>
    intro t a b bk w hm h60 hok h
    cases t with
    | L c =>
      rw [Tm.ok] at hok
      rw [TS] at h
      obtain ⟨rfl, _⟩ := h
      rw [Tm.tidy]
      exact tidM_let c hok b bk w
    | S t =>
      rw [Tm.ok] at hok
      rw [Tm.len] at hm h60
      obtain ⟨e1, A, d, e2⟩ := h.form
      obtain ⟨g, d, e3, hg, hk⟩ := h.kid (by simp [Tm.kids])
      obtain ⟨x, y, hx, hy, hr⟩ := hk 0 (by simp [Tm.kids])
      subst e1; subst e3
      rw [Tm.tidy]
      refine tidM_sgn g d x y _ bk w hg hx hy fun W hb => ?_
      exact ih t x y (!bk) W (by omega) (by omega) hok (TS.keep (fun k hk => hb.block k hk) (fun k hk => by have := hb.size; omega) _ _ _ hr)
    | B ts =>
      rw [Tm.ok] at hok
      rw [Tm.len] at hm h60
      have hlen := lens_len ts
      obtain ⟨e1, A, d, e2⟩ := h.form
      subst e1; subst e2
      refine tidM_brk A d ts bk w (by omega) (by omega) fun k hkt => ?_
      obtain ⟨g, d', e3, hg, hk⟩ := h.kid (by show 0 < ts.length; omega)
      injection e3 with e3 _ _
      obtain ⟨x, y, hx, hy, hr⟩ := hk k hkt
      refine ⟨g, x, y, e3, hg, hx, hy, fun W hb => ?_⟩
      have hlm := len_mem (List.getElem_mem hkt)
      exact ih _ x y bk W (by omega) (by omega) (oks_mem hok.2 _ (List.getElem_mem hkt)) (TS.keep (fun k hk => hb.block k hk) (fun k hk => by have := hb.size; omega) _ _ _ hr)
theorem tidM_any {t : Tm} {a b : Value} {w : World} (hok : t.ok) (h60 : t.len ≤ 60) (h : TS w (fun k => k < w.heap.size) t a b) (bk : Bool) : Calls Tryd.prog 34 #[.agg #[a, b], .bool bk] w (RowM (t.tidy bk) w) :=
  tidM_all t.len t a b bk w (Nat.le_refl _) h60 hok h
attribute [local go_sem ↓] ldR_fold stR_fold in
theorem tidyI_no (s : ByteArray) (w : World) (hand : Hand w) (hs : s.size ≤ 1048576) (h : ringT s.data.toList = none) : Calls Tryd.prog 20 #[.string s] w (StrQ [] false w) := by
  have HD := Lib.hid ((rrNo7 s hs h).out w hand)
  clear h
  go_enter Tryd.func20, Tryd.ntmps20
  go_wp2_with (go_at_call 24; refine HD.out.mono ?_; rintro e w1 ⟨rfl, hb1⟩; obtain ⟨W2, r2, a2, b2⟩ := put7 w1 (-1) (-1) (-1) (-1) (-1) (-1) (-1))
  go_ret2
  exact ⟨rfl, hb1.trans (b2.out.mono hb1.size)⟩
attribute [local go_sem ↓] ldR_fold stR_fold in
theorem tidyI_yes (s : ByteArray) (w : World) (hand : Hand w) (hs : s.size ≤ 1048576) (t : Tm) (h : ringT s.data.toList = some t) : Calls Tryd.prog 20 #[.string s] w (StrQ (t.tidy false) true w) := by
  obtain ⟨hok, hlen, h60⟩ := rdT_ok (ringT_ok h).1
  obtain ⟨q0, q1, q2, q3, q4, q5, q6, hQ, HC⟩ := rrYes7 s hs t h
  have HD := Lib.hid (HC.out w hand)
  have HRW : Hid (∀ (v : Value) (W : World), TR W (fun b => b < W.heap.size) t v → Calls Tryd.prog 33 #[v, .bool false] W (RowQ (t.tidy false) W)) := fun v W hv => tidI_all t.len t v false W (Nat.le_refl _) (by omega) hok hv
  clear HC h hok hlen h60
  go_enter Tryd.func20, Tryd.ntmps20
  go_wp2_with fail
  refine HD.out.mono ?_
  rintro e w1 ⟨v, rfl, ht, hb1⟩
  obtain ⟨W2, r2, a2, b2⟩ := put7 w1 q0 q1 q2 q3 q4 q5 q6
  have HRC := Lib.hid (HRW.out v W2 (TR.keep (fun k hk => b2.out.block k hk) (fun k hk => by have := b2.out.size; omega) _ _ ht))
  have HB2 := Lib.hid (hb1.trans (b2.out.mono hb1.size))
  obtain ⟨T, x, rfl⟩ := ht.iface
  clear HRW ht hb1 HD a2 b2
  go_wp2_with (go_at_call 33; refine HRC.out.mono ?_; rintro e w3 ⟨rfl, hb3⟩)
  go_ret2
  exact ⟨rfl, HB2.out.trans (hb3.mono HB2.out.size)⟩
attribute [local go_sem ↓] ld9_fold st9_fold in
theorem tidyS_no (s : ByteArray) (w : World) (h : ringT s.data.toList = none) : Calls Tryd.prog 21 #[.string s] w (StrQ [] false w) := by
  have HD := Lib.hid (ofNo s w h)
  clear h
  go_enter Tryd.func21, Tryd.ntmps21
  go_wp2_with (go_at_call 25; refine HD.out.mono ?_; rintro e w1 ⟨c, A, n, d, rfl, hb1⟩; obtain ⟨W2, r2, a2, b2⟩ := put9 w1 c A n d)
  go_ret2
  exact ⟨rfl, hb1.trans (b2.out.mono hb1.size)⟩
attribute [local go_sem ↓] ld9_fold st9_fold in
theorem tidyS_yes (s : ByteArray) (w : World) (t : Tm) (h : ringT s.data.toList = some t) : Calls Tryd.prog 21 #[.string s] w (StrQ (t.tidy false) true w) := by
  obtain ⟨hok, hlen, h60⟩ := rdT_ok (ringT_ok h).1
  have HRW : Hid (∀ (a b : Value) (W : World), TS W (fun k => k < W.heap.size) t a b → Calls Tryd.prog 34 #[.agg #[a, b], .bool false] W (RowM (t.tidy false) W)) := fun a b W hv => tidM_all t.len t a b false W (Nat.le_refl _) (by omega) hok hv
  have HD := Lib.hid (ofYes s w t h)
  clear h hok hlen h60
  go_enter Tryd.func21, Tryd.ntmps21
  go_wp2_with fail
  refine HD.out.mono ?_
  rintro e w1 ⟨a, b, rfl, ht, hb1⟩
  have HT := Lib.hid ht
  obtain ⟨e1, A, d, e2⟩ := ht.form
  subst e1; subst e2
  obtain ⟨W2, r2, a2, b2⟩ := put9 w1 (t.sig.toNat : Int) A t.kids.length d
  have l2 := a2.out.ld
  have HRC := Lib.hid (HRW.out _ _ W2 (TS.keep (fun k hk => b2.out.block k hk) (fun k hk => by have := b2.out.size; omega) _ _ _ HT.out))
  have HB2 := Lib.hid (hb1.trans (b2.out.mono hb1.size))
  clear HRW ht HT hb1 HD a2 b2
  go_wp2_with (go_at_call 34; refine HRC.out.mono ?_; rintro e w3 ⟨rfl, hb3⟩)
  go_ret2
  exact ⟨rfl, HB2.out.trans (hb3.mono HB2.out.size)⟩
end Go.Proofs.YtoifdfbhhdedbaaDoor
