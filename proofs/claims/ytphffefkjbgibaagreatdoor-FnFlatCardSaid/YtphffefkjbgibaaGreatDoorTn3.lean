/- How deep a term is: the program's and the model's. -/
import Derived.Test.YtphffefkjbgibaaGreatDoorTn1
namespace Go.Proofs.YtphffefkjbgibaaGreatDoor
open Go.ChangeShapes Go.WideShapes Go.ChangeAt Go.RowKit

/-- A number is handed back. -/
def DepQ (d : Nat) (w : World) (e : Ending) (w' : World) : Prop := e = .returned (.int .i64 (d : Int)) ∧ Below w.heap.size w w'
theorem dep_take (ts : List Tm) (k : Nat) (h : k < ts.length) : Tm.deps (ts.take (k + 1)) = max (Tm.deps (ts.take k)) ts[k].dep := by rw [take_snocT ts k h, deps_snoc]
theorem deps_take_le (ts : List Tm) (k : Nat) : Tm.deps (ts.take k) ≤ Tm.lens ts := Nat.le_trans (deps_le _) (lens_take ts k)

/-! ### What a type switch finds -/
theorem ta_ls (x : Int) (w : World) : (Instr.typeAssert (.iface 125 (.int .u8 x)) 34 76 true).run Tryz.prog w = .ok (.tuple #[.agg #[.nilIface], .bool false]) w := by kernel_rfl
theorem ta_lb (x : Int) (w : World) : (Instr.typeAssert (.iface 125 (.int .u8 x)) 34 78 true).run Tryz.prog w = .ok (.tuple #[.slice none 0 0, .bool false]) w := by kernel_rfl
theorem ta_ss (u : Value) (w : World) : (Instr.typeAssert (.iface 76 (.agg #[u])) 34 76 true).run Tryz.prog w = .ok (.tuple #[.agg #[u], .bool true]) w := by kernel_rfl
theorem ta_bs (a : Option Addr) (n c : Nat) (w : World) : (Instr.typeAssert (.iface 78 (.slice a n c)) 34 76 true).run Tryz.prog w = .ok (.tuple #[.agg #[.nilIface], .bool false]) w := by kernel_rfl
theorem ta_bb (a : Option Addr) (n c : Nat) (w : World) : (Instr.typeAssert (.iface 78 (.slice a n c)) 34 78 true).run Tryz.prog w = .ok (.tuple #[.slice a n c, .bool true]) w := by kernel_rfl

set_option maxRecDepth 10000 in
theorem depI_let (x : Int) (w : World) : Calls Tryz.prog 16 #[.iface 125 (.int .u8 x)] w (DepQ 0 w) := by
  have y1 := ta_ls
  have y2 := ta_lb
  go_enter Tryz.func16, Tryz.ntmps16
  go_wp2_with fail
  go_ret
  exact ⟨rfl, Below.refl _ _⟩
set_option maxRecDepth 10000 in
theorem depI_sgn (u : Value) (d : Nat) (w : World) (hu : ∃ T x, u = .iface T x)
    (HC : Hid (∀ W, Below w.heap.size w W → Calls Tryz.prog 16 #[u] W (DepQ d W))) : Calls Tryz.prog 16 #[.iface 76 (.agg #[u])] w (DepQ d w) := by
  obtain ⟨T, x, rfl⟩ := hu
  have y1 := ta_ss
  go_enter Tryz.func16, Tryz.ntmps16
  go_wp2_with fail
  have hb := (Below.refl w.heap.size w).alloc (Nat.le_refl _) (.cells #[.iface T x] 76)
  refine (HC.out _ hb).mono ?_
  rintro e w1 ⟨rfl, hb1⟩
  go_wp2_with fail
  go_ret
  exact ⟨rfl, hb.trans (hb1.mono (by simp))⟩
set_option maxRecDepth 10000 in
set_option maxHeartbeats 1000000 in
theorem depI_brk (gb c : Nat) (ts : List Tm) (w : World) (hgb : gb < w.heap.size) (hn : ts.length ≤ 60) (hl : Tm.lens ts ≤ 60)
    (hk : Hid (∀ k (hk : k < ts.length), ∃ T x, w.cell? ⟨gb, k, none⟩ = some (.iface T x) ∧ ∀ W, Below w.heap.size w W → Calls Tryz.prog 16 #[.iface T x] W (DepQ ts[k].dep W))) :
    Calls Tryz.prog 16 #[.iface 78 (.slice (some ⟨gb, 0, none⟩) ts.length c)] w (DepQ (Tm.deps ts + 1) w) := by
  have y1 := ta_bs
  have y2 := ta_bb
  obtain ⟨n, hN⟩ : ∃ n, n = ts.length := ⟨_, rfl⟩
  have HN := Lib.hid hN
  rw [← hN] at hn ⊢
  clear hN
  go_enter Tryz.func16, Tryz.ntmps16
  go_wp2_with fail
  go_loopw [5, 21] (fun m i wr => ∃ (k d : Nat), k ≤ n ∧ i = .int .i64 k ∧ m = .int .i64 (d : Int) ∧ Hid (d = Tm.deps (ts.take k)) ∧ d ≤ 60 ∧ Hid (Below w.heap.size w wr)) (fun _ i _ => n - (intOf i).toNat)
  case atStart => exact ⟨0, 0, Nat.zero_le _, rfl, rfl, rfl, by decide, Below.refl _ _⟩
  case round =>
    obtain ⟨k, d, hk', rfl, rfl, hd, hd60, hbl⟩ := hrel
    by_cases hlt : k < n
    · have hkt : k < ts.length := by have := HN.out; omega
      obtain ⟨T, x, hc, hC⟩ := hk.out k hkt
      have hcw : wr.cell? ⟨gb, k, none⟩ = some (.iface T x) := (hbl.out.cell (p := ⟨gb, k, none⟩) hgb).trans hc
      have HC := Lib.hid (hC wr hbl.out)
      obtain ⟨d2, hd2⟩ : ∃ d2, d2 = (ts[k]'hkt).dep := ⟨_, rfl⟩
      rw [← hd2] at HC
      have h260 : d2 ≤ 60 := by have := dep_le (ts[k]'hkt); have := len_mem (List.getElem_mem hkt); omega
      have HD2 : Hid (max d d2 = Tm.deps (ts.take (k + 1))) := by rw [Hid, dep_take ts k hkt, ← hd2, ← hd.out]
      clear hc hC hd2
      go_wp2_with (go_at_call 16; refine HC.out.mono ?_; rintro e w5 ⟨rfl, hb5⟩)
      go_roundw
      case rel => exact ⟨k + 1, max d d2, by omega, by go_num, by first | rfl | go_num | (congr 1; omega), HD2, by omega, hbl.out.trans (hb5.mono hbl.out.size)⟩
      case measure => simp [intOf]; omega
    · obtain rfl : k = n := by omega
      have e : Tm.deps (ts.take k) = Tm.deps ts := by rw [List.take_of_length_le (by have := HN.out; omega)]
      have hd' := hd.out
      rw [e] at hd'
      have HD := Lib.hid hd'
      clear hd' hd e
      go_wp2_with fail
      go_ret
      exact ⟨by rw [← HD.out]; rfl, hbl.out⟩
theorem depI_all (m : Nat) : ∀ (t : Tm) (v : Value) (w : World), t.len ≤ m → t.len ≤ 60 → t.ok → TR w (fun b => b < w.heap.size) t v → Calls Tryz.prog 16 #[v] w (DepQ t.dep w) := by
  induction m with
  | zero => intro t v w h; have := len_pos t; omega
  | succ m ih =>
    intro t v w hm h60 hok h
    cases t with
    | L c =>
      rw [TR] at h
      subst h
      rw [Tm.dep]
      exact depI_let _ w
    | S t =>
      rw [Tm.ok] at hok
      rw [Tm.len] at hm h60
      rw [TR] at h
      obtain ⟨u, rfl, hr⟩ := h
      rw [Tm.dep]
      exact depI_sgn u _ w hr.iface fun W hb => ih t u W (by omega) (by omega) hok (TR.keep (fun k hk => hb.block k hk) (fun k hk => by have := hb.size; omega) t u hr)
    | B ts =>
      rw [Tm.ok] at hok
      rw [Tm.len] at hm h60
      have hlen := lens_len ts
      rw [Tm.dep]
      obtain ⟨g, c, e0, h1, h2, h3, hk⟩ := h.kid
      subst e0
      refine depI_brk g c ts w h3 (by omega) (by omega) fun k hkt => ?_
      obtain ⟨u, hc, hr⟩ := hk k hkt
      obtain ⟨T, x, rfl⟩ := hr.iface
      refine ⟨T, x, hc, fun W hb => ?_⟩
      have hlm := len_mem (List.getElem_mem hkt)
      exact ih _ _ W (by omega) (by omega) (oks_mem hok.2 _ (List.getElem_mem hkt)) (TR.keep (fun k hk => hb.block k hk) (fun k hk => by have := hb.size; omega) _ _ hr)

theorem dep_kids (t : Tm) (hok : t.ok) : t.dep = Tm.deps t.kids + if t.sig = 40 then 1 else 0 := by
  cases t with
  | L c =>
    rw [Tm.ok] at hok
    have : c ≠ 40 := fun e => by subst e; exact absurd hok (by decide)
    simp [Tm.dep, Tm.kids, Tm.deps, Tm.sig, this]
  | S t => simp [Tm.dep, Tm.kids, Tm.deps, Tm.sig]
  | B ts => simp [Tm.dep, Tm.kids, Tm.sig]
theorem kids_lens (t : Tm) : Tm.lens t.kids < t.len := by cases t <;> simp [Tm.kids, Tm.lens, Tm.len] <;> omega
theorem kids_ok (t : Tm) (hok : t.ok) : Tm.oks t.kids := by
  cases t with
  | L c => simp [Tm.kids, Tm.oks]
  | S t => rw [Tm.ok] at hok; simp [Tm.kids, Tm.oks, hok]
  | B ts => rw [Tm.ok] at hok; exact hok.2
end Go.Proofs.YtphffefkjbgibaaGreatDoor
