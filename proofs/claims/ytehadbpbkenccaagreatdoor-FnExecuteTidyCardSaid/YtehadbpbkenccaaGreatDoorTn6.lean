/- Tidy terms: the model's; TermTidy: the program's and the model's. -/
import Derived.Test.YtehadbpbkenccaaGreatDoorTn5
import Derived.Test.YtehadbpbkenccaaGreatDoorTn4
namespace Go.Proofs.YtehadbpbkenccaaGreatDoor
open Go.ChangeShapes Go.WideShapes Go.ChangeAt Go.RowKit

theorem tidM_let (c : UInt8) (h : isL c = true) (b : Value) (bk : Bool) (w : World) : Calls Tryz.prog 12 #[.agg #[.int .u8 (c.toNat : Int), b], .bool bk] w (RowM [c] w) := by
  obtain ⟨h1, h2⟩ : 97 ≤ c.toNat ∧ c.toNat ≤ 103 := by simpa [isL] using h
  have e1 : ((c.toNat : Int) == 45) = false := by simp; omega
  have e2 : ((c.toNat : Int) != 40) = true := by simp; omega
  have hcv : (convert 22 9 (.slice (some ⟨w.heap.size + 1, 0, none⟩) 1 1)).run Tryz.prog ((w.alloc (.cells #[.int .u8 (c.toNat : Int), b] 37)).alloc (.cells #[.int .u8 (c.toNat : Int)] 5)) = .ok (.string (bs [c])) ((w.alloc (.cells #[.int .u8 (c.toNat : Int), b] 37)).alloc (.cells #[.int .u8 (c.toNat : Int)] 5)) := by
    simpa using of8 (one8 (w.alloc (.cells #[.int .u8 (c.toNat : Int), b] 37)) c) 1
  have HB := Lib.hid (((Below.refl w.heap.size w).alloc (Nat.le_refl _) (.cells #[.int .u8 (c.toNat : Int), b] 37)).alloc (by simp) (.cells #[.int .u8 (c.toNat : Int)] 5))
  go_enter Tryz.func12, Tryz.ntmps12
  go_wp2_with fail
  go_ret
  exact ⟨rfl, HB.out⟩

attribute [local go_sem ↓] ld9_fold st9_fold in
theorem tidM_sgn (g d : Nat) (x y : Value) (l : List UInt8) (bk : Bool) (w : World) (hg : g < w.heap.size) (h0 : w.cell? ⟨g, 0, none⟩ = some x) (h1 : w.cell? ⟨g, 1, none⟩ = some y)
    (HC : Hid (∀ W, Below w.heap.size w W → Calls Tryz.prog 12 #[.agg #[x, y], .bool (!bk)] W (RowM l W))) :
    Calls Tryz.prog 12 #[.agg #[.int .u8 45, .slice (some ⟨g, 0, none⟩) 1 d], .bool bk] w (RowM l w) := by
  have hb := (Below.refl w.heap.size w).alloc (Nat.le_refl _) (.cells #[.int .u8 45, .slice (some ⟨g, 0, none⟩) 1 d] 37)
  have HD := Lib.hid (HC.out _ hb)
  have HL := ld9_at ((hb.cell (p := ⟨g, 0, none⟩) hg).trans h0) ((hb.cell (p := ⟨g, 1, none⟩) hg).trans h1)
  have HB := Lib.hid hb
  clear HC hb h0 h1
  go_enter Tryz.func12, Tryz.ntmps12
  go_wp2_with (go_at_call 12; refine HD.out.mono ?_; rintro e w1 ⟨rfl, hb1⟩)
  go_ret
  exact ⟨rfl, HB.out.trans (hb1.mono (by simp))⟩

attribute [local go_sem ↓] ld9_fold st9_fold in
set_option maxHeartbeats 1000000 in
theorem tidM_brk (A : Option Addr) (d : Nat) (ts : List Tm) (bk : Bool) (w : World) (h60 : Tm.lens ts ≤ 58) (hn60 : ts.length ≤ 60)
    (HC : Hid (∀ k (hk : k < ts.length), ∃ g x y, A = some ⟨g, 0, none⟩ ∧ g < w.heap.size ∧ w.cell? ⟨g, k * 2, none⟩ = some x ∧ w.cell? ⟨g, k * 2 + 1, none⟩ = some y ∧
      ∀ W, Below w.heap.size w W → Calls Tryz.prog 12 #[.agg #[x, y], .bool bk] W (RowM (ts[k].tidy bk) W))) :
    Calls Tryz.prog 12 #[.agg #[.int .u8 40, .slice A ts.length d], .bool bk] w (RowM ((Tm.B ts).tidy bk) w) := by
  obtain ⟨n, hn⟩ : ∃ n, n = ts.length := ⟨_, rfl⟩
  rw [← hn] at hn60 ⊢
  have HN := Lib.hid hn
  clear hn
  have hb := (Below.refl w.heap.size w).alloc (Nat.le_refl _) (.cells #[.int .u8 40, .slice A n d] 37)
  have hc0 : (w.alloc (.cells #[.int .u8 40, .slice A n d] 37)).cell? ⟨w.heap.size, 0, none⟩ = some (.int .u8 40) := by simp
  have hc1 : (w.alloc (.cells #[.int .u8 40, .slice A n d] 37)).cell? ⟨w.heap.size, 1, none⟩ = some (.slice A n d) := by simp
  have HB := Lib.hid hb
  have HC0 := Lib.hid hc0
  have HC1 := Lib.hid hc1
  clear hb hc0 hc1
  go_enter Tryz.func12, Tryz.ntmps12
  go_wp2_with fail
  obtain ⟨W0, hW⟩ : ∃ W, W = w.alloc (.cells #[.int .u8 40, .slice A n d] 37) := ⟨_, rfl⟩
  rw [← hW] at HB HC0 HC1 ⊢
  have HW0 : Hid (W0.heap.size = w.heap.size + 1) := by rw [hW]; simp [Hid]
  clear hW
  go_loopw [5, 6] (fun o i wr => ∃ (k : Nat) (ob : ByteArray), k ≤ n ∧ i = .int .i64 k ∧ o = .string ob ∧ Hid (ob = bs (Tm.tidys bk (ts.take k))) ∧ ob.size ≤ 60 ∧ Hid (Below W0.heap.size W0 wr)) (fun _ i _ => n - (intOf i).toNat)
  case atStart => exact ⟨0, _, Nat.zero_le _, rfl, rfl, by simp [Hid, Tm.tidys, bs], by decide, Below.refl _ _⟩
  case round =>
    obtain ⟨k, ob, hk, rfl, rfl, HO, hos, HBL⟩ := hrel
    have c0 := (HBL.out.cell (p := ⟨w.heap.size, 0, none⟩) (by have := HW0.out; show w.heap.size < _; omega)).trans HC0.out
    have c1 := (HBL.out.cell (p := ⟨w.heap.size, 1, none⟩) (by have := HW0.out; show w.heap.size < _; omega)).trans HC1.out
    by_cases hlt : k < n
    · have hkt : k < ts.length := by have := HN.out; omega
      have hbw := HB.out.trans (HBL.out.mono (by have := HW0.out; omega))
      obtain ⟨g, x, y, rfl, hg, hx, hy, hC⟩ := HC.out k hkt
      have HL := ld9_at ((hbw.cell (p := ⟨g, k * 2, none⟩) hg).trans hx) ((hbw.cell (p := ⟨g, k * 2 + 1, none⟩) hg).trans hy)
      have HSZ : Hid (ob.size + ((ts[k]'hkt).tidy bk).length ≤ 58) := by
        rw [Hid, HO.out, bs_size]
        have h1 := tidys_le (ts.take (k + 1)) bk
        have h2 := lens_take ts (k + 1)
        rw [take_snocT ts k hkt, tidys_snoc] at h1
        split at h1 <;> simp at h1 <;> omega
      have hl60 : ((ts[k]'hkt).tidy bk).length ≤ 60 := by have := HSZ.out; omega
      clear hx hy
      cases bk with
      | true =>
        have HD := Lib.hid (hC wr hbw)
        clear hC hbw
        go_wp2_with (go_at_call 12; refine HD.out.mono ?_; rintro e w5 ⟨rfl, hb5⟩; obtain ⟨r, hr⟩ : ∃ r, r = bs ((ts[k]'hkt).tidy true) := ⟨_, rfl⟩; rw [← hr]; have hrs : r.size ≤ 60 := (by rw [hr, bs_size]; exact hl60); have HR := Lib.hid hr; clear hr)
        go_roundw
        case rel =>
          refine ⟨k + 1, _, by omega, by go_num, rfl, ?_, ?_, HBL.out.trans (hb5.mono HBL.out.size)⟩
          · rw [Hid, HR.out, HO.out, bs_app, take_snocT ts k hkt, tidys_snoc]; rfl
          · have h1 := HSZ.out
            have h2 := congrArg ByteArray.size HR.out
            rw [bs_size] at h2
            rw [ByteArray.size_append]; omega
        case measure => simp [intOf]; omega
      | false =>
        have HD := Lib.hid (hC wr hbw)
        clear hC hbw
        go_wp2_with (go_at_call 12; refine HD.out.mono ?_; rintro e w5 ⟨rfl, hb5⟩; obtain ⟨r, hr⟩ : ∃ r, r = bs ((ts[k]'hkt).tidy false) := ⟨_, rfl⟩; rw [← hr]; have hrs : r.size ≤ 60 := (by rw [hr, bs_size]; exact hl60); have HR := Lib.hid hr; clear hr)
        go_roundw
        case rel =>
          refine ⟨k + 1, _, by omega, by go_num, rfl, ?_, ?_, HBL.out.trans (hb5.mono HBL.out.size)⟩
          · rw [Hid, HR.out, HO.out, bs_app, take_snocT ts k hkt, tidys_snoc]; rfl
          · have h1 := HSZ.out
            have h2 := congrArg ByteArray.size HR.out
            rw [bs_size] at h2
            rw [ByteArray.size_append]; omega
        case measure => simp [intOf]; omega
    · obtain rfl : k = n := by omega
      have e : Tm.tidys bk (ts.take k) = Tm.tidys bk ts := by rw [List.take_of_length_le (by have := HN.out; omega)]
      have HOE : Hid (ob = bs (Tm.tidys bk ts)) := by rw [Hid, HO.out, e]
      clear e
      go_wp2_with fail
      go_ret
      exact ⟨by rw [Tm.tidy, ← brk_app, ← HOE.out]; rfl, HB.out.trans (HBL.out.mono (by have := HW0.out; omega))⟩
theorem tidM_all (m : Nat) : ∀ (t : Tm) (a b : Value) (bk : Bool) (w : World), t.len ≤ m → t.len ≤ 60 → t.ok → TS w (fun k => k < w.heap.size) t a b → Calls Tryz.prog 12 #[.agg #[a, b], .bool bk] w (RowM (t.tidy bk) w) := by
  induction m with
  | zero => intro t a b bk w h; have := len_pos t; omega
  | succ m ih =>
    intro t a b bk w hm h60 hok h
    cases t with
    | L c =>
      rw [Tm.ok] at hok
      rw [TS] at h
      obtain ⟨rfl, _⟩ := h
      rw [Tm.tidy]
      exact tidM_let c hok b bk w
    | S t =>
      rw [Tm.ok] at hok
      rw [Tm.len] at hm h60
      obtain ⟨e1, A, d, e2⟩ := h.form
      obtain ⟨g, d, e3, hg, hk⟩ := h.kid (by simp [Tm.kids])
      obtain ⟨x, y, hx, hy, hr⟩ := hk 0 (by simp [Tm.kids])
      subst e1; subst e3
      rw [Tm.tidy]
      refine tidM_sgn g d x y _ bk w hg hx hy fun W hb => ?_
      exact ih t x y (!bk) W (by omega) (by omega) hok (TS.keep (fun k hk => hb.block k hk) (fun k hk => by have := hb.size; omega) _ _ _ hr)
    | B ts =>
      rw [Tm.ok] at hok
      rw [Tm.len] at hm h60
      have hlen := lens_len ts
      obtain ⟨e1, A, d, e2⟩ := h.form
      subst e1; subst e2
      refine tidM_brk A d ts bk w (by omega) (by omega) fun k hkt => ?_
      obtain ⟨g, d', e3, hg, hk⟩ := h.kid (by show 0 < ts.length; omega)
      injection e3 with e3 _ _
      obtain ⟨x, y, hx, hy, hr⟩ := hk k hkt
      refine ⟨g, x, y, e3, hg, hx, hy, fun W hb => ?_⟩
      have hlm := len_mem (List.getElem_mem hkt)
      exact ih _ x y bk W (by omega) (by omega) (oks_mem hok.2 _ (List.getElem_mem hkt)) (TS.keep (fun k hk => hb.block k hk) (fun k hk => by have := hb.size; omega) _ _ _ hr)
theorem tidM_any {t : Tm} {a b : Value} {w : World} (hok : t.ok) (h60 : t.len ≤ 60) (h : TS w (fun k => k < w.heap.size) t a b) (bk : Bool) : Calls Tryz.prog 12 #[.agg #[a, b], .bool bk] w (RowM (t.tidy bk) w) :=
  tidM_all t.len t a b bk w (Nat.le_refl _) h60 hok h
attribute [local go_sem ↓] ldR_fold stR_fold in
theorem tidyI_no (s : ByteArray) (w : World) (hand : Hand w) (hs : s.size ≤ 1048576) (h : ringT s.data.toList = none) : Calls Tryz.prog 5 #[.string s] w (StrQ [] false w) := by
  have HD := Lib.hid ((rrNo7 s hs h).out w hand)
  clear h
  go_enter Tryz.func5, Tryz.ntmps5
  go_wp2_with (go_at_call 9; refine HD.out.mono ?_; rintro e w1 ⟨rfl, hb1⟩; obtain ⟨W2, r2, a2, b2⟩ := put7 w1 (-1) (-1) (-1) (-1) (-1) (-1) (-1))
  go_ret2
  exact ⟨rfl, hb1.trans (b2.out.mono hb1.size)⟩
attribute [local go_sem ↓] ldR_fold stR_fold in
theorem tidyI_yes (s : ByteArray) (w : World) (hand : Hand w) (hs : s.size ≤ 1048576) (t : Tm) (h : ringT s.data.toList = some t) : Calls Tryz.prog 5 #[.string s] w (StrQ (t.tidy false) true w) := by
  obtain ⟨hok, hlen, h60⟩ := rdT_ok (ringT_ok h).1
  obtain ⟨q0, q1, q2, q3, q4, q5, q6, hQ, HC⟩ := rrYes7 s hs t h
  have HD := Lib.hid (HC.out w hand)
  have HRW : Hid (∀ (v : Value) (W : World), TR W (fun b => b < W.heap.size) t v → Calls Tryz.prog 10 #[v, .bool false] W (RowQ (t.tidy false) W)) := fun v W hv => tidI_all t.len t v false W (Nat.le_refl _) (by omega) hok hv
  clear HC h hok hlen h60
  go_enter Tryz.func5, Tryz.ntmps5
  go_wp2_with fail
  refine HD.out.mono ?_
  rintro e w1 ⟨v, rfl, ht, hb1⟩
  obtain ⟨W2, r2, a2, b2⟩ := put7 w1 q0 q1 q2 q3 q4 q5 q6
  have HRC := Lib.hid (HRW.out v W2 (TR.keep (fun k hk => b2.out.block k hk) (fun k hk => by have := b2.out.size; omega) _ _ ht))
  have HB2 := Lib.hid (hb1.trans (b2.out.mono hb1.size))
  obtain ⟨T, x, rfl⟩ := ht.iface
  clear HRW ht hb1 HD a2 b2
  go_wp2_with (go_at_call 10; refine HRC.out.mono ?_; rintro e w3 ⟨rfl, hb3⟩)
  go_ret2
  exact ⟨rfl, HB2.out.trans (hb3.mono HB2.out.size)⟩
attribute [local go_sem ↓] ld9_fold st9_fold in
theorem tidyS_no (s : ByteArray) (w : World) (h : ringT s.data.toList = none) : Calls Tryz.prog 6 #[.string s] w (StrQ [] false w) := by
  have HD := Lib.hid (ofNo s w h)
  clear h
  go_enter Tryz.func6, Tryz.ntmps6
  go_wp2_with (go_at_call 11; refine HD.out.mono ?_; rintro e w1 ⟨c, A, n, d, rfl, hb1⟩; obtain ⟨W2, r2, a2, b2⟩ := put9 w1 c A n d)
  go_ret2
  exact ⟨rfl, hb1.trans (b2.out.mono hb1.size)⟩
attribute [local go_sem ↓] ld9_fold st9_fold in
theorem tidyS_yes (s : ByteArray) (w : World) (t : Tm) (h : ringT s.data.toList = some t) : Calls Tryz.prog 6 #[.string s] w (StrQ (t.tidy false) true w) := by
  obtain ⟨hok, hlen, h60⟩ := rdT_ok (ringT_ok h).1
  have HRW : Hid (∀ (a b : Value) (W : World), TS W (fun k => k < W.heap.size) t a b → Calls Tryz.prog 12 #[.agg #[a, b], .bool false] W (RowM (t.tidy false) W)) := fun a b W hv => tidM_all t.len t a b false W (Nat.le_refl _) (by omega) hok hv
  have HD := Lib.hid (ofYes s w t h)
  clear h hok hlen h60
  go_enter Tryz.func6, Tryz.ntmps6
  go_wp2_with fail
  refine HD.out.mono ?_
  rintro e w1 ⟨a, b, rfl, ht, hb1⟩
  have HT := Lib.hid ht
  obtain ⟨e1, A, d, e2⟩ := ht.form
  subst e1; subst e2
  obtain ⟨W2, r2, a2, b2⟩ := put9 w1 (t.sig.toNat : Int) A t.kids.length d
  have l2 := a2.out.ld
  have HRC := Lib.hid (HRW.out _ _ W2 (TS.keep (fun k hk => b2.out.block k hk) (fun k hk => by have := b2.out.size; omega) _ _ _ HT.out))
  have HB2 := Lib.hid (hb1.trans (b2.out.mono hb1.size))
  clear HRW ht HT hb1 HD a2 b2
  go_wp2_with (go_at_call 12; refine HRC.out.mono ?_; rintro e w3 ⟨rfl, hb3⟩)
  go_ret2
  exact ⟨rfl, HB2.out.trans (hb3.mono HB2.out.size)⟩
end Go.Proofs.YtehadbpbkenccaaGreatDoor
