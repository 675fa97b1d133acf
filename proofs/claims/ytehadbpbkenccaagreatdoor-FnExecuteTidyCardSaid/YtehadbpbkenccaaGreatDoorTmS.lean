/- The model's rows of terms. -/
import Derived.Test.YtehadbpbkenccaaGreatDoorTmR
import Derived.Test.YtehadbpbkenccaaGreatDoorDR
import Derived.Test.YtehadbpbkenccaaGreatDoorTmI
namespace Go.Proofs.YtehadbpbkenccaaGreatDoor
open Go.ChangeShapes Go.WideShapes Go.ChangeAt Go.RowKit

theorem bs_app (a b : List UInt8) : bs a ++ bs b = bs (a ++ b) := by
  apply ByteArray.ext
  simp [bs]
/-- Whole terms of the model's loaded and stored, by other names. -/
def ld9 (p : Addr) : Sem Value := loadVar 37 p
def st9 (p : Addr) (v : Value) : Sem Unit := storeVar 37 p v
theorem ld9_fold (p : Addr) : loadVar 37 p = ld9 p := rfl
theorem st9_fold (p : Addr) (v : Value) : storeVar 37 p v = st9 p v := rfl
theorem size9 (w : World) : (sizeOf 37).run Tryz.prog w = .ok 2 w := by kernel_rfl
theorem ld9_at {w : World} {g o : Nat} {x y : Value} (h0 : w.cell? ⟨g, o, none⟩ = some x) (h1 : w.cell? ⟨g, o + 1, none⟩ = some y) : (ld9 ⟨g, o, none⟩).run Tryz.prog w = .ok (.agg #[x, y]) w := by
  have hl := run_loadCells_list (P := Tryz.prog) w ⟨g, o, none⟩ [x, y] fun j v hv => by
    rcases j with _ | _ | j
    · simp at hv; subst hv; rw [Addr.add_lit]; simpa using h0
    · simp at hv; subst hv; rw [Addr.add_lit]; exact h1
    · simp at hv
  have hl' : Sem.run Tryz.prog (loadCells ⟨g, o, none⟩ 2) w = .ok #[x, y] w := by simpa using hl
  unfold ld9
  simp [loadVar, isAgg, underlying, Tryz.underlying37, Result.andThen, hl']

/-- A row is handed back: the model's. -/
def RowM (l : List UInt8) (w : World) (e : Ending) (w' : World) : Prop := e = .returned (.string (bs l)) ∧ Below w.heap.size w w'

theorem one8 (W : World) (c : UInt8) : H8 (W.alloc (.cells #[.int .u8 (c.toNat : Int)] 5)) W.heap.size [c] := by
  refine ⟨by simp, fun j hj => ?_⟩
  obtain rfl : j = 0 := by simp at hj; omega
  exact ⟨by simp [e8], by simp⟩
theorem rowM_let (c : UInt8) (h : isL c = true) (b : Value) (bk : Bool) (w : World) : Calls Tryz.prog 32 #[.agg #[.int .u8 (c.toNat : Int), b], .bool bk] w (RowM [c] w) := by
  obtain ⟨h1, h2⟩ : 97 ≤ c.toNat ∧ c.toNat ≤ 103 := by simpa [isL] using h
  have e1 : ((c.toNat : Int) == 45) = false := by simp; omega
  have e2 : ((c.toNat : Int) != 40) = true := by simp; omega
  have hcv : (convert 22 9 (.slice (some ⟨w.heap.size + 1, 0, none⟩) 1 1)).run Tryz.prog ((w.alloc (.cells #[.int .u8 (c.toNat : Int), b] 37)).alloc (.cells #[.int .u8 (c.toNat : Int)] 5)) = .ok (.string (bs [c])) ((w.alloc (.cells #[.int .u8 (c.toNat : Int), b] 37)).alloc (.cells #[.int .u8 (c.toNat : Int)] 5)) := by
    simpa using of8 (one8 (w.alloc (.cells #[.int .u8 (c.toNat : Int), b] 37)) c) 1
  have HB := Lib.hid (((Below.refl w.heap.size w).alloc (Nat.le_refl _) (.cells #[.int .u8 (c.toNat : Int), b] 37)).alloc (by simp) (.cells #[.int .u8 (c.toNat : Int)] 5))
  go_enter Tryz.func32, Tryz.ntmps32
  go_wp2_with fail
  go_ret
  exact ⟨rfl, HB.out⟩

attribute [local go_sem ↓] ld9_fold st9_fold in
theorem rowM_sgn (g d : Nat) (x y : Value) (l : List UInt8) (bk : Bool) (w : World) (hg : g < w.heap.size) (h0 : w.cell? ⟨g, 0, none⟩ = some x) (h1 : w.cell? ⟨g, 1, none⟩ = some y)
    (HC : Hid (∀ W, Below w.heap.size w W → Calls Tryz.prog 32 #[.agg #[x, y], .bool (!bk)] W (RowM l W))) :
    Calls Tryz.prog 32 #[.agg #[.int .u8 45, .slice (some ⟨g, 0, none⟩) 1 d], .bool bk] w (RowM l w) := by
  have hb := (Below.refl w.heap.size w).alloc (Nat.le_refl _) (.cells #[.int .u8 45, .slice (some ⟨g, 0, none⟩) 1 d] 37)
  have HD := Lib.hid (HC.out _ hb)
  have HL := ld9_at ((hb.cell (p := ⟨g, 0, none⟩) hg).trans h0) ((hb.cell (p := ⟨g, 1, none⟩) hg).trans h1)
  have HB := Lib.hid hb
  clear HC hb h0 h1
  go_enter Tryz.func32, Tryz.ntmps32
  go_wp2_with (go_at_call 32; refine HD.out.mono ?_; rintro e w1 ⟨rfl, hb1⟩)
  go_ret
  exact ⟨rfl, HB.out.trans (hb1.mono (by simp))⟩

attribute [local go_sem ↓] ld9_fold st9_fold in
set_option maxHeartbeats 1000000 in
theorem rowM_brk (A : Option Addr) (d : Nat) (ts : List Tm) (bk : Bool) (w : World) (h60 : (Tm.rows ts).length ≤ 60) (hn60 : ts.length ≤ 60)
    (HC : Hid (∀ k (hk : k < ts.length), ∃ g x y, A = some ⟨g, 0, none⟩ ∧ g < w.heap.size ∧ w.cell? ⟨g, k * 2, none⟩ = some x ∧ w.cell? ⟨g, k * 2 + 1, none⟩ = some y ∧
      ∀ W, Below w.heap.size w W → Calls Tryz.prog 32 #[.agg #[x, y], .bool bk] W (RowM (ts[k].rowB bk) W))) :
    Calls Tryz.prog 32 #[.agg #[.int .u8 40, .slice A ts.length d], .bool bk] w (RowM (rowsB ts bk) w) := by
  obtain ⟨n, hn⟩ : ∃ n, n = ts.length := ⟨_, rfl⟩
  rw [← hn] at hn60 ⊢
  have HN := Lib.hid hn
  clear hn
  have hb := (Below.refl w.heap.size w).alloc (Nat.le_refl _) (.cells #[.int .u8 40, .slice A n d] 37)
  have hc0 : (w.alloc (.cells #[.int .u8 40, .slice A n d] 37)).cell? ⟨w.heap.size, 0, none⟩ = some (.int .u8 40) := by simp
  have hc1 : (w.alloc (.cells #[.int .u8 40, .slice A n d] 37)).cell? ⟨w.heap.size, 1, none⟩ = some (.slice A n d) := by simp
  have HB := Lib.hid hb
  have HC0 := Lib.hid hc0
  have HC1 := Lib.hid hc1
  clear hb hc0 hc1
  go_enter Tryz.func32, Tryz.ntmps32
  go_wp2_with fail
  obtain ⟨W0, hW⟩ : ∃ W, W = w.alloc (.cells #[.int .u8 40, .slice A n d] 37) := ⟨_, rfl⟩
  rw [← hW] at HB HC0 HC1 ⊢
  have HW0 : Hid (W0.heap.size = w.heap.size + 1) := by rw [hW]; simp [Hid]
  clear hW
  go_loopw [5, 6] (fun o i wr => ∃ (k : Nat) (ob : ByteArray), k ≤ n ∧ i = .int .i64 k ∧ o = .string ob ∧ Hid (ob = bs (rowsB (ts.take k) bk)) ∧ ob.size ≤ 60 ∧ Hid (Below W0.heap.size W0 wr)) (fun _ i _ => n - (intOf i).toNat)
  case atStart => exact ⟨0, _, Nat.zero_le _, rfl, rfl, by cases bk <;> simp [Hid, rowsB, Tm.rows, bs], by decide, Below.refl _ _⟩
  case round =>
    obtain ⟨k, ob, hk, rfl, rfl, HO, hos, HBL⟩ := hrel
    have c0 := (HBL.out.cell (p := ⟨w.heap.size, 0, none⟩) (by have := HW0.out; show w.heap.size < _; omega)).trans HC0.out
    have c1 := (HBL.out.cell (p := ⟨w.heap.size, 1, none⟩) (by have := HW0.out; show w.heap.size < _; omega)).trans HC1.out
    by_cases hlt : k < n
    · have hkt : k < ts.length := by have := HN.out; omega
      have hbw := HB.out.trans (HBL.out.mono (by have := HW0.out; omega))
      obtain ⟨g, x, y, rfl, hg, hx, hy, hC⟩ := HC.out k hkt
      have HL := ld9_at ((hbw.cell (p := ⟨g, k * 2, none⟩) hg).trans hx) ((hbw.cell (p := ⟨g, k * 2 + 1, none⟩) hg).trans hy)
      have HSZ : Hid (ob.size + (ts[k]'hkt).row.length ≤ 60) := by
        rw [Hid, HO.out, bs_size, rowsB_len]
        have h1 : (Tm.rows (ts.take (k + 1))).length ≤ (Tm.rows ts).length := by
          have := congrArg (fun l => (Tm.rows l).length) (List.take_append_drop (k + 1) ts)
          simp only [rows_flat, List.map_append, List.flatten_append, List.length_append] at this ⊢
          omega
        rw [take_snocT ts k hkt, rows_snoc, List.length_append] at h1
        omega
      have hl60 : (ts[k]'hkt).row.length ≤ 60 := by have := HSZ.out; omega
      clear hx hy
      cases bk with
      | true =>
        have HD := Lib.hid (hC wr hbw)
        clear hC hbw
        go_wp2_with (go_at_call 32; refine HD.out.mono ?_; rintro e w5 ⟨rfl, hb5⟩; obtain ⟨r, hr⟩ : ∃ r, r = bs ((ts[k]'hkt).rowB true) := ⟨_, rfl⟩; rw [← hr]; have hrs : r.size ≤ 60 := (by rw [hr, bs_size, rowB_len]; omega); have HR := Lib.hid hr; clear hr)
        go_roundw
        case rel =>
          refine ⟨k + 1, _, by omega, by go_num, rfl, ?_, ?_, HBL.out.trans (hb5.mono HBL.out.size)⟩
          · rw [Hid, HR.out, HO.out, bs_app, take_snocT ts k hkt, rowsB_snoc]; rfl
          · have h1 := HSZ.out
            have h2 : r.size = (ts[k]'hkt).row.length := by rw [HR.out, bs_size, rowB_len]
            rw [ByteArray.size_append]; omega
        case measure => simp [intOf]; omega
      | false =>
        have HD := Lib.hid (hC wr hbw)
        clear hC hbw
        go_wp2_with (go_at_call 32; refine HD.out.mono ?_; rintro e w5 ⟨rfl, hb5⟩; obtain ⟨r, hr⟩ : ∃ r, r = bs ((ts[k]'hkt).rowB false) := ⟨_, rfl⟩; rw [← hr]; have hrs : r.size ≤ 60 := (by rw [hr, bs_size, rowB_len]; omega); have HR := Lib.hid hr; clear hr)
        go_roundw
        case rel =>
          refine ⟨k + 1, _, by omega, by go_num, rfl, ?_, ?_, HBL.out.trans (hb5.mono HBL.out.size)⟩
          · rw [Hid, HR.out, HO.out, bs_app, take_snocT ts k hkt, rowsB_snoc]; rfl
          · have h1 := HSZ.out
            have h2 : r.size = (ts[k]'hkt).row.length := by rw [HR.out, bs_size, rowB_len]
            rw [ByteArray.size_append]; omega
        case measure => simp [intOf]; omega
    · obtain rfl : k = n := by omega
      go_wp2_with fail
      go_ret
      have e : rowsB (ts.take k) bk = rowsB ts bk := by rw [List.take_of_length_le (by have := HN.out; omega)]
      exact ⟨by rw [← e, ← HO.out]; rfl, HB.out.trans (HBL.out.mono (by have := HW0.out; omega))⟩

theorem rowM_all (m : Nat) : ∀ (t : Tm) (a b : Value) (bk : Bool) (w : World), t.len ≤ m → t.len ≤ 60 → t.ok → TS w (fun k => k < w.heap.size) t a b → Calls Tryz.prog 32 #[.agg #[a, b], .bool bk] w (RowM (t.rowB bk) w) := by
  induction m with
  | zero => intro t a b bk w h; have := len_pos t; omega
  | succ m ih =>
    intro t a b bk w hm h60 hok h
    cases t with
    | L c =>
      rw [Tm.ok] at hok
      rw [TS] at h
      obtain ⟨rfl, _⟩ := h
      rw [rowB_L]
      exact rowM_let c hok b bk w
    | S t =>
      rw [Tm.ok] at hok
      rw [Tm.len] at hm h60
      obtain ⟨e1, A, d, e2⟩ := h.form
      obtain ⟨g, d, e3, hg, hk⟩ := h.kid (by simp [Tm.kids])
      obtain ⟨x, y, hx, hy, hr⟩ := hk 0 (by simp [Tm.kids])
      subst e1; subst e3
      rw [rowB_S]
      refine rowM_sgn g d x y _ bk w hg hx hy fun W hb => ?_
      exact ih t x y (!bk) W (by omega) (by omega) hok (TS.keep (fun k hk => hb.block k hk) (fun k hk => by have := hb.size; omega) _ _ _ hr)
    | B ts =>
      rw [Tm.ok] at hok
      rw [Tm.len] at hm h60
      have hrow := trows_le ts
      have hlen := lens_len ts
      obtain ⟨e1, A, d, e2⟩ := h.form
      subst e1; subst e2
      rw [rowB_B]
      refine rowM_brk A d ts bk w (by omega) (by omega) fun k hkt => ?_
      obtain ⟨g, d', e3, hg, hk⟩ := h.kid (by show 0 < ts.length; omega)
      injection e3 with e3 _ _
      obtain ⟨x, y, hx, hy, hr⟩ := hk k hkt
      refine ⟨g, x, y, e3, hg, hx, hy, fun W hb => ?_⟩
      have hlm := len_mem (List.getElem_mem hkt)
      exact ih _ x y bk W (by omega) (by omega) (oks_mem hok.2 _ (List.getElem_mem hkt)) (TS.keep (fun k hk => hb.block k hk) (fun k hk => by have := hb.size; omega) _ _ _ hr)
theorem rowM_any {t : Tm} {a b : Value} {w : World} (hok : t.ok) (h60 : t.len ≤ 60) (h : TS w (fun k => k < w.heap.size) t a b) (bk : Bool) : Calls Tryz.prog 32 #[.agg #[a, b], .bool bk] w (RowM (t.rowB bk) w) :=
  rowM_all t.len t a b bk w (Nat.le_refl _) h60 hok h
end Go.Proofs.YtehadbpbkenccaaGreatDoor
