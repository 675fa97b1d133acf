/- The program's reading of the terms in brackets; both readings together. -/
import Derived.Test.YtehadbpbkenccaaGreatDoorTmI
namespace Go.Proofs.YtehadbpbkenccaaGreatDoor
open Go.ChangeShapes Go.WideShapes Go.ChangeAt Go.RowKit

/-- What a reading that begins at k0 hands back. -/
def TRes (r : Option (Tm × Nat)) (k0 : Nat) (w : World) (e : Ending) (w' : World) : Prop :=
  match r with
  | none => TNo w e w'
  | some (t, n) => TYes t (k0 + n) w e w'
theorem tres_some (t : Tm) (n : Nat) (w : World) : TRes (some (t, n)) 0 w = TYes t n w := by
  funext e w'
  show TYes t (0 + n) w e w' = _
  rw [Nat.zero_add]
def asB (r : Option (List Tm × Nat)) : Option (Tm × Nat) := r.map fun r => (.B r.1, r.2)

theorem RowT.form {w : World} {B : Nat} {v : Value} {ts : List Tm} (h : RowT w B v ts) : ∃ A c, v = .slice A ts.length c := by
  obtain ⟨vs, ho, _⟩ := h
  rcases ho.2 with ⟨e, h0⟩ | ⟨g, cap, cur, e, _⟩
  · exact ⟨none, 0, by rw [e, h0]⟩
  · exact ⟨_, cap, e⟩
theorem RowT.tr {w : World} {B : Nat} {A : Option Addr} {n c : Nat} {ts : List Tm} (h : RowT w B (.slice A n c) ts) (h2 : 2 ≤ ts.length) : TR w (Btw B w.heap.size) (.B ts) (.iface 76 (.slice A n c)) := by
  obtain ⟨vs, ho, hr⟩ := h
  rcases ho.2 with ⟨_, h0⟩ | ⟨g, cap, cur, e, hB, hg, hn, hm, _, ht⟩
  · omega
  · rw [TR]
    injection e with e1 e2 e3
    subst e1; subst e2; subst e3
    refine ⟨g, c, cur, rfl, hn, hm, ⟨hB, (Array.getElem?_eq_some_iff.1 hg).1⟩, hg, ?_⟩
    rw [Nat.mul_one] at ht
    rw [ht]
    exact TRs.keep (fun k _ => rfl) (fun k hk => hk.1) _ _ hr

attribute [local go_sem ↓] apT_fold in
set_option maxHeartbeats 1000000 in
theorem b_any (s : ByteArray) (k0 : Nat) (w : World) (hk0 : k0 ≤ s.size) (h60 : s.size ≤ 60)
    (hT : ∀ k w, k0 ≤ k → k ≤ s.size → Calls Tryz.prog 82 #[.string s, .int .i64 (k : Int)] w (TRes (pT (sf s k)) k w)) :
    Calls Tryz.prog 145 #[.string s, .int .i64 (k0 : Int)] w (TRes (asB (pB (sf s k0) [])) k0 w) := by
  have HT := Lib.hid hT
  clear hT
  obtain ⟨r, hr⟩ : ∃ r, r = asB (pB (sf s k0) []) := ⟨_, rfl⟩
  rw [← hr]
  have HR := Lib.hid hr
  clear hr
  have HE := RowT.empty w (Nat.le_refl w.heap.size)
  have HB0 := (Below.refl w.heap.size w).alloc (Nat.le_refl _) (.cells #[] 29)
  go_enter Tryz.func145, Tryz.ntmps145
  go_wp2
  go_loopw [1, 7] (fun a v wr => ∃ (k : Nat) (ts : List Tm), a = .int .i64 (k : Int) ∧ k0 ≤ k ∧ k ≤ s.size ∧ RowT wr w.heap.size v ts ∧ ts.length ≤ k ∧ Below w.heap.size w wr ∧
    Hid (pB (sf s k0) [] = (pB (sf s k) ts).map fun r => (r.1, r.2 + (k - k0)))) (fun a _ _ => s.size - (intOf a).toNat)
  case atStart => exact ⟨k0, [], rfl, Nat.le_refl _, hk0, HE, by simp, HB0, by rw [Hid]; cases pB (sf s k0) [] <;> simp⟩
  case round =>
    obtain ⟨k, ts, rfl, hk1, hk2, hrow, hl, hb, HP⟩ := hrel
    clear HE HB0
    obtain ⟨A, c, rfl⟩ := hrow.form
    by_cases hlt : k < s.size
    · by_cases hc : s[k] = 41
      · have hc' : s[k].toNat = 41 := by rw [hc]; rfl
        have HQ : Hid (pB (sf s k) ts = if 2 ≤ ts.length then some (ts, 1) else none) := by rw [Hid, sf_cons s k hlt, hc, pB_close]
        have HRo := Lib.hid hrow
        have hq : ((k : Int) == (s.size : Int)) = false := by simp; omega
        clear hrow
        by_cases h2 : 2 ≤ ts.length
        · go_wp2
          go_ret3
          have e : r = some (.B ts, k + 1 - k0) := by
            rw [HR.out, HP.out, HQ.out, if_pos h2, asB, Option.map_some, Option.map_some]
            show some _ = some _
            rw [show 1 + (k - k0) = k + 1 - k0 by omega]
          rw [e]
          exact ⟨_, by rw [show k0 + (k + 1 - k0) = k + 1 by omega]; rfl, HRo.out.tr h2, hb⟩
        · go_wp2
          go_ret3
          have e : r = none := by rw [HR.out, HP.out, HQ.out, if_neg h2]; rfl
          rw [e]
          exact ⟨_, rfl, hb⟩
      · have hc' : ((s[k].toNat : Int) != 41) = true := by
          simp; intro e; exact hc (UInt8.toNat_inj.1 (by simp; omega))
        have HC := Lib.hid (HT.out k wr hk1 hk2)
        have hBs := hb.size
        rcases hp : pT (sf s k) with _ | ⟨t, n⟩
        · rw [hp] at HC
          have HQ : Hid (pB (sf s k) ts = none) := by rw [Hid, sf_cons s k hlt, pB_none _ _ hc (by rw [← sf_cons s k hlt]; exact hp)]
          clear hp
          have HRo := Lib.hid hrow
          clear hrow
          go_wp2_with (go_at_call 82; refine HC.out.mono ?_; rintro e w' ⟨n, rfl, hb'⟩)
          go_ret3
          have e : r = none := by rw [HR.out, HP.out, HQ.out]; rfl
          rw [e]
          exact ⟨_, rfl, hb.trans (hb'.mono hBs)⟩
        · rw [hp] at HC
          obtain ⟨hok, hlen, hn⟩ := pT_ok hp
          have h1 := len_pos t
          rw [sf_len] at hn
          have HQ : Hid (pB (sf s k) ts = (pB (sf s (k + n)) (ts ++ [t])).map fun r => (r.1, r.2 + n)) := by
            rw [Hid, sf_cons s k hlt, pB_some _ _ hc (by rw [← sf_cons s k hlt]; exact hp), sf_drop, show k + 1 + (n - 1) = k + n by omega]
          clear hp
          go_wp2_with (go_at_call 82; refine HC.out.mono ?_; rintro e w1 ⟨u, rfl, ht, hb'⟩; obtain ⟨v5, w5, hrun, hrow5, hb5⟩ := hrow.snoc hBs hb' ht (by omega); obtain ⟨T, x, rfl⟩ := ht.iface)
          go_roundw
          case rel =>
            refine ⟨k + n, ts ++ [t], rfl, by omega, by omega, hrow5, by simp; omega, hb.trans hb5, ?_⟩
            rw [Hid, HP.out, HQ.out]
            rw [Option.map_map]
            congr 1
            funext r
            show (r.1, _) = (r.1, _)
            rw [show r.2 + n + (k - k0) = r.2 + (k + n - k0) by omega]
          case measure => simp [intOf]; omega
    · obtain rfl : k = s.size := by omega
      have HQ : Hid (pB (sf s s.size) ts = none) := by rw [Hid, sf_end, pB_nil]
      have HRo := Lib.hid hrow
      clear hrow
      go_wp2
      go_ret3
      have e : r = none := by rw [HR.out, HP.out, HQ.out]; rfl
      rw [e]
      exact ⟨_, rfl, hb⟩

theorem t_all (s : ByteArray) (h60 : s.size ≤ 60) (m : Nat) : ∀ (k : Nat) (w : World), k ≤ s.size → s.size - k ≤ m →
    Calls Tryz.prog 82 #[.string s, .int .i64 (k : Int)] w (TRes (pT (sf s k)) k w) := by
  induction m with
  | zero =>
    intro k w h1 h2
    obtain rfl : k = s.size := by omega
    rw [sf_end, pT_nil]
    exact t_end s w
  | succ m ih =>
    intro k w h1 h2
    by_cases hlt : k < s.size
    · rw [sf_cons s k hlt]
      by_cases hL : isL s[k] = true
      · rw [pT_let _ hL]
        exact t_let s k w hlt (by omega) hL
      · have hL' : isL s[k] = false := by simpa using hL
        by_cases hs : s[k] = 45
        · have hs' : s[k].toNat = 45 := by rw [hs]; rfl
          rw [hs, pT_sign]
          have HC := ih (k + 1) w (by omega) (by omega)
          rw [show ((k + 1 : Nat) : Int) = (k : Int) + 1 by omega] at HC
          rcases hp : pT (sf s (k + 1)) with _ | ⟨t, n⟩
          · rw [hp] at HC
            exact t_sign0 s k w hlt (by omega) hs' HC
          · rw [hp] at HC
            have := t_sign1 s k w hlt (by omega) hs' t (k + 1 + n) HC
            rw [show k + 1 + n = k + (n + 1) by omega] at this
            exact this
        · by_cases ho : s[k] = 40
          · have ho' : s[k].toNat = 40 := by rw [ho]; rfl
            rw [ho, pT_open]
            have HC := b_any s (k + 1) w (by omega) h60 fun k' w' ha hb => ih k' w' hb (by omega)
            rw [show ((k + 1 : Nat) : Int) = (k : Int) + 1 by omega] at HC
            rcases hp : pB (sf s (k + 1)) [] with _ | ⟨ts, n⟩
            · rw [hp] at HC
              exact t_open0 s k w hlt (by omega) ho' HC
            · rw [hp] at HC
              have := t_open1 s k w hlt (by omega) ho' (.B ts) (k + 1 + n) HC
              rw [show k + 1 + n = k + (n + 1) by omega] at this
              exact this
          · rw [pT_bad _ hL' hs ho]
            exact t_bad s k w hlt hL' hs ho
    · obtain rfl : k = s.size := by omega
      rw [sf_end, pT_nil]
      exact t_end s w
theorem term_any (s : ByteArray) (w : World) (h60 : s.size ≤ 60) : Calls Tryz.prog 82 #[.string s, .int .i64 0] w (TRes (pT s.data.toList) 0 w) :=
  t_all s h60 s.size 0 w (Nat.zero_le _) (by omega)

/-- The text of at most 60 bytes that is a term as a whole. -/
def rdT (l : List UInt8) : Option Tm := if l.length ≤ 60 then (match pT l with | some (t, n) => if n = l.length then some t else none | none => none) else none
theorem rdT_ok {l : List UInt8} {t : Tm} (h : rdT l = some t) : t.ok ∧ t.len = l.length ∧ l.length ≤ 60 := by
  unfold rdT at h
  by_cases h1 : l.length ≤ 60
  · rw [if_pos h1] at h
    rcases hp : pT l with _ | ⟨u, n⟩
    · rw [hp] at h; cases h
    · rw [hp] at h
      simp only at h
      by_cases h2 : n = l.length
      · rw [if_pos h2] at h
        obtain rfl := Option.some.inj h
        obtain ⟨a, b, _⟩ := pT_ok hp
        exact ⟨a, by omega, h1⟩
      · rw [if_neg h2] at h; cases h
  · rw [if_neg h1] at h; cases h
/-- readTerm: the term, or an error. -/
def RNo (w : World) (e : Ending) (w' : World) : Prop := ∃ n : Int, e = .returned (.tuple #[.nilIface, .iface 65 (.agg #[.int .i64 n])]) ∧ Below w.heap.size w w'
def RYes (t : Tm) (w : World) (e : Ending) (w' : World) : Prop := ∃ v, e = .returned (.tuple #[v, .nilIface]) ∧ TR w' (Btw w.heap.size w'.heap.size) t v ∧ Below w.heap.size w w'
def RRes (r : Option Tm) (w : World) (e : Ending) (w' : World) : Prop := match r with | none => RNo w e w' | some t => RYes t w e w'
theorem readTerm_any (s : ByteArray) (w : World) (hs : s.size ≤ 1048576) : Calls Tryz.prog 21 #[.string s] w (RRes (rdT s.data.toList) w) := by
  by_cases h60 : s.size ≤ 60
  · have HC := Lib.hid (term_any s w h60)
    rcases hp : pT s.data.toList with _ | ⟨t, n⟩
    · rw [hp] at HC
      have e : rdT s.data.toList = none := by unfold rdT; rw [hp]; simp
      rw [e]
      clear e hp
      go_enter Tryz.func21, Tryz.ntmps21
      go_wp2_with (go_at_call 82; refine HC.out.mono ?_; rintro e w' ⟨n, rfl, hb⟩)
      go_ret2
      exact ⟨_, rfl, hb⟩
    · rw [hp] at HC
      obtain ⟨_, _, hn⟩ := pT_ok hp
      have hn' : n ≤ s.size := by simpa using hn
      by_cases hnl : n = s.size
      · have e : rdT s.data.toList = some t := by unfold rdT; rw [hp]; simp [hnl, h60]
        rw [e]
        clear e hp hn
        have HC' : Hid (Calls Tryz.prog 82 #[.string s, .int .i64 0] w (TYes t s.size w)) := by rw [hnl, tres_some] at HC; exact HC
        clear HC
        subst hnl
        go_enter Tryz.func21, Tryz.ntmps21
        go_wp2_with (go_at_call 82; refine HC'.out.mono ?_; rintro e w' ⟨v, rfl, ht, hb⟩)
        go_ret2
        exact ⟨_, rfl, ht, hb⟩
      · have e : rdT s.data.toList = none := by unfold rdT; rw [hp]; simp [h60]; intro e; exact absurd e (by simpa using hnl)
        rw [e]
        clear e hp hn
        have hlt : n < s.size := by omega
        have HC' : Hid (Calls Tryz.prog 82 #[.string s, .int .i64 0] w (TYes t n w)) := by rw [tres_some] at HC; exact HC
        clear HC
        go_enter Tryz.func21, Tryz.ntmps21
        go_wp2_with (go_at_call 82; refine HC'.out.mono ?_; rintro e w' ⟨v, rfl, ht, hb⟩)
        go_ret2
        exact ⟨_, rfl, hb⟩
  · have e : rdT s.data.toList = none := by unfold rdT; rw [if_neg (by simpa using h60)]
    rw [e]
    clear e
    have h60' : 60 < s.size := by omega
    go_enter Tryz.func21, Tryz.ntmps21
    go_wp2
    go_ret2
    exact ⟨_, rfl, Below.refl _ _⟩
end Go.Proofs.YtehadbpbkenccaaGreatDoor
