/- The model's reading of a ring term. -/
import Derived.Test.YtehadbpbkenccaaGreatDoorTmU
import Derived.Test.YtehadbpbkenccaaGreatDoorTmQ
namespace Go.Proofs.YtehadbpbkenccaaGreatDoor
open Go.ChangeShapes Go.WideShapes Go.ChangeAt Go.RowKit

/-- No ring term; a ring term: the model's answers. -/
def ONo (w : World) (e : Ending) (w' : World) : Prop := ∃ c A n d, e = .returned (.tuple #[.agg #[.int .u8 c, .slice A n d], .bool false]) ∧ Below w.heap.size w w'
def OYes (t : Tm) (w : World) (e : Ending) (w' : World) : Prop := ∃ a b, e = .returned (.tuple #[.agg #[a, b], .bool true]) ∧ TS w' (fun k => k < w'.heap.size) t a b ∧ Below w.heap.size w w'

attribute [local go_sem ↓] ld9_fold st9_fold in
set_option maxRecDepth 10000 in
theorem of_long (s : ByteArray) (w : World) (h : 60 < s.size) : Calls Tryz.prog 11 #[.string s] w (ONo w) := by
  obtain ⟨W, r, h0, hn, hb, hs⟩ := pro9 w
  have l1 := hn.out.ld
  obtain ⟨W', r', a', b', _, _⟩ := fin9 (x' := .int .u8 97) (y' := .slice (some ⟨w.heap.size + 1, 0, none⟩) 0 0) h0.out hb.out rfl rfl
  go_enter Tryz.func11, Tryz.ntmps11
  go_wp2_with fail
  exact ret_ct9 rfl w.heap.size _ _ rfl a' rfl ⟨_, _, _, _, rfl, b'.out⟩
attribute [local go_sem ↓] ld9_fold st9_fold in
set_option maxRecDepth 10000 in
theorem of_none (s : ByteArray) (w : World) (h60 : s.size ≤ 60) (hp : pT s.data.toList = none) : Calls Tryz.prog 11 #[.string s] w (ONo w) := by
  obtain ⟨W, r, h0, hn, hb, hs⟩ := pro9 w
  have HC := read9_any s W h60
  rw [hp] at HC
  have HC' := Lib.hid HC
  clear HC hp
  go_enter Tryz.func11, Tryz.ntmps11
  go_wp2_with fail
  refine HC'.out.mono ?_
  rintro e W1 ⟨c, A, n, d, rfl, hb1⟩
  obtain ⟨W2, r2, a2, b2, g2, s2⟩ := fin9 (w := W1) (x' := .int .u8 c) (y' := .slice A n d) (V9.new W1 (.int .u8 0) (.slice none 0 0)) ((Below.refl _ _).alloc (Nat.le_refl _) _) rfl rfl
  have HB2 : Hid (Below W.heap.size W W2) := hb1.trans (b2.out.mono hb1.size)
  have l1 := (hn.out.below HB2.out (by have := hs.out; omega)).ld
  obtain ⟨W', r', a', b', g', s'⟩ := fin9 (w := w) (x' := .int .u8 97) (y' := .slice (some ⟨w.heap.size + 1, 0, none⟩) 0 0) (h0.out.below HB2.out (by have := hs.out; omega)) (hb.out.trans (HB2.out.mono (by have := hs.out; omega))) rfl rfl
  clear g' s' g2 s2 hb1
  go_wp2_with fail
  exact ret_ct9 rfl w.heap.size _ _ rfl a' rfl ⟨_, _, _, _, rfl, b'.out⟩
attribute [local go_sem ↓] ld9_fold st9_fold in
set_option maxRecDepth 10000 in
set_option maxHeartbeats 1000000 in
theorem of_some (s : ByteArray) (w : World) (h60 : s.size ≤ 60) (t : Tm) (m : Nat) (hp : pT s.data.toList = some (t, m)) :
    Calls Tryz.prog 11 #[.string s] w (if m = s.size ∧ Tell (ptsU t.row) then OYes t w else ONo w) := by
  obtain ⟨P, hP⟩ : ∃ P, P = (if m = s.size ∧ Tell (ptsU t.row) then OYes t w else ONo w) := ⟨_, rfl⟩
  rw [← hP]
  have HP := Lib.hid hP
  clear hP
  obtain ⟨W, r, h0, hn, hb, hs⟩ := pro9 w
  have HC := read9_any s W h60
  rw [hp, sres_some] at HC
  have HC' := Lib.hid HC
  obtain ⟨hok, hlen, hm⟩ := pT_ok hp
  have hm' : m ≤ s.size := by simpa using hm
  have hpos := len_pos t
  have hrow := trow_le t
  have HOK := Lib.hid hok
  have hlr : t.row.length ≤ 60 := by omega
  have htl : t.len ≤ 60 := by omega
  have hm1 : 1 ≤ m := by omega
  clear HC hp hok hlen hm hpos hrow
  have hm0 : ((m : Int) == 0) = false := by simp; omega
  go_enter Tryz.func11, Tryz.ntmps11
  go_wp2_with fail
  refine HC'.out.mono ?_
  rintro e W1 ⟨x, y, rfl, ht, hb1⟩
  have HT1 := Lib.hid ht
  obtain ⟨e1, A2, d2, e2⟩ := ht.form
  subst e1; subst e2
  have hs1 := hb1.size
  obtain ⟨W2, r2, a2, b2, g2, s2⟩ := fin9 (w := W1) (x' := .int .u8 (t.sig.toNat : Int)) (y' := .slice A2 t.kids.length d2) (V9.new W1 (.int .u8 0) (.slice none 0 0)) ((Below.refl _ _).alloc (Nat.le_refl _) _) rfl rfl
  have HB2 : Hid (Below W.heap.size W W2) := hb1.trans (b2.out.mono hb1.size)
  have hs2 : W1.heap.size < W2.heap.size := by rw [s2]; simp
  have HT2 : Hid (TS W2 (Btw W.heap.size W1.heap.size) t (.int .u8 (t.sig.toNat : Int)) (.slice A2 t.kids.length d2)) :=
    TS.keep (fun k hk => b2.out.block k hk.2) (fun k hk => hk) _ _ _ HT1.out
  have l2 := a2.out.ld
  have hsW := hb1.size
  have HSW := Lib.hid hsW
  clear g2 s2 ht HT1 hb1 hsW r
  by_cases hms : m = s.size
  · subst hms
    have HRW := Lib.hid (rowM_any (w := W2) HOK.out htl (TS.keep (fun k _ => rfl) (fun k hk => by have := hk.2; omega) _ _ _ HT2.out) false)
    have hf : t.rowB false = t.row := rfl
    rw [hf] at HRW
    obtain ⟨q, hq⟩ : ∃ q, q = bs t.row := ⟨_, rfl⟩
    have hq1 : q.data.toList = t.row := by rw [hq, bs_list]
    have hq2 : q.size ≤ 1000 := by rw [hq, bs_size]; omega
    obtain ⟨l, hl⟩ : ∃ l, l = ptsU t.row := ⟨_, rfl⟩
    have HLS := Lib.hid (fun V => list9_any q V hq2)
    rw [hq1, ← hl] at HLS
    rw [← hl] at HP
    have HQ := Lib.hid hq
    have hln : l.length ≤ 60 := by rw [hl, ptsU_len]; exact hlr
    clear hf hq hq1 hq2 hl
    go_wp2_with fail
    refine HRW.out.mono ?_
    rintro e w3 ⟨rfl, hb3⟩
    rw [← HQ.out]
    have HB3 := Lib.hid (HB2.out.trans (hb3.mono HB2.out.size))
    have hs3 := hb3.size
    clear HRW
    go_wp2_with fail
    refine (HLS.out w3).mono ?_
    rintro e w4 ⟨v, rfl, hown, hb4⟩
    have HB4 := Lib.hid (HB3.out.trans (hb4.mono HB3.out.size))
    obtain ⟨A4, d4, rfl⟩ : ∃ A d, v = .slice A l.length d := by
      rcases hown.2 with ⟨e, h0⟩ | ⟨g, cap, cur, e, _⟩
      · exact ⟨none, 0, by rw [e, h0]⟩
      · exact ⟨_, cap, e⟩
    have HRD := Lib.hid hown.rd.2
    have HV4 := Lib.hid ((a2.out.below hb3 (by omega)).below hb4 (by omega))
    have HTSK : Hid (∀ V, Below W2.heap.size W2 V → TS V (fun k => k < V.heap.size) t (.int .u8 (t.sig.toNat : Int)) (.slice A2 t.kids.length d2)) := fun V hV =>
      TS.keep (fun k hk => hV.block k (by have := hk.2; omega)) (fun k hk => by have := hk.2; have := hV.size; omega) _ _ _ HT2.out
    have HB24 := Lib.hid (hb3.trans (hb4.mono hs3))
    clear hown hb3 hb4 HLS
    by_cases hT : Tell l
    · have HTL : Hid (tell l = true) := tell_yes hT
      have HE : Hid (P = OYes t w) := by rw [Hid, HP.out, if_pos ⟨by trivial, hT⟩]
      have l4 := HV4.out.ld
      obtain ⟨W', r', a', b', g', s'⟩ := fin9 (w := w) (x' := .int .u8 (t.sig.toNat : Int)) (y' := .slice A2 t.kids.length d2) (h0.out.below HB4.out (by have := hs.out; omega)) (hb.out.trans (HB4.out.mono (by have := hs.out; omega))) rfl rfl
      have HTF : Hid (TS W' (fun k => k < W'.heap.size) t (.int .u8 (t.sig.toNat : Int)) (.slice A2 t.kids.length d2)) :=
        TS.keep (w := W2) (fun k hk => (g'.block k (by have := hk.2; have := HB24.out.size; omega) (by have := hk.1; have := hs.out; simp; omega)).trans (HB24.out.block k (by have := hk.2; omega))) (fun k hk => by have := hk.2; have := HB24.out.size; omega) _ _ _ HT2.out
      clear g' s' hT
      go_wp2_with (go_at_call 30; refine (every_any A4 l.length d4 w4.heap.size l w4 HRD.out (by omega)).mono ?_; rintro e w' ⟨rfl, rfl⟩; rw [HTL.out])
      rw [HE.out]
      exact ret_ct9 rfl w.heap.size _ _ rfl a' rfl ⟨_, _, rfl, HTF.out, b'.out⟩
    · have HTL : Hid (tell l = false) := tell_no hT
      have HE : Hid (P = ONo w) := by rw [Hid, HP.out, if_neg fun h => hT h.2]
      have l4 := (hn.out.below HB4.out (by have := hs.out; omega)).ld
      obtain ⟨W', r', a', b', g', s'⟩ := fin9 (w := w) (x' := .int .u8 97) (y' := .slice (some ⟨w.heap.size + 1, 0, none⟩) 0 0) (h0.out.below HB4.out (by have := hs.out; omega)) (hb.out.trans (HB4.out.mono (by have := hs.out; omega))) rfl rfl
      clear g' s' hT
      go_wp2_with (go_at_call 30; refine (every_any A4 l.length d4 w4.heap.size l w4 HRD.out (by omega)).mono ?_; rintro e w' ⟨rfl, rfl⟩; rw [HTL.out])
      rw [HE.out]
      exact ret_ct9 rfl w.heap.size _ _ rfl a' rfl ⟨_, _, _, _, rfl, b'.out⟩
  · have hne : ((m : Int) != (s.size : Int)) = true := by simp; omega
    have l1 := (hn.out.below HB2.out (by have := hs.out; omega)).ld
    obtain ⟨W', r', a', b', g', s'⟩ := fin9 (w := w) (x' := .int .u8 97) (y' := .slice (some ⟨w.heap.size + 1, 0, none⟩) 0 0) (h0.out.below HB2.out (by have := hs.out; omega)) (hb.out.trans (HB2.out.mono (by have := hs.out; omega))) rfl rfl
    clear g' s'
    have e : P = ONo w := by rw [HP.out, if_neg fun h => hms h.1]
    have HE := Lib.hid e
    clear e
    go_wp2_with fail
    rw [HE.out]
    exact ret_ct9 rfl w.heap.size _ _ rfl a' rfl ⟨_, _, _, _, rfl, b'.out⟩

theorem ofYes (s : ByteArray) (w : World) (t : Tm) (h : ringT s.data.toList = some t) : Calls Tryz.prog 11 #[.string s] w (OYes t w) := by
  obtain ⟨h1, h2⟩ := ringT_ok h
  unfold rdT at h1
  by_cases h60 : s.data.toList.length ≤ 60
  · rw [if_pos h60] at h1
    rcases hp : pT s.data.toList with _ | ⟨u, n⟩
    · rw [hp] at h1; cases h1
    · rw [hp] at h1
      simp only at h1
      by_cases h3 : n = s.data.toList.length
      · rw [if_pos h3] at h1
        obtain rfl := Option.some.inj h1
        have h4 : n = s.size := by simpa using h3
        have := of_some s w (by simpa using h60) u n hp
        rw [if_pos ⟨h4, h2⟩] at this
        exact this
      · rw [if_neg h3] at h1; cases h1
  · rw [if_neg h60] at h1; cases h1
theorem ofNo (s : ByteArray) (w : World) (h : ringT s.data.toList = none) : Calls Tryz.prog 11 #[.string s] w (ONo w) := by
  by_cases h60 : s.size ≤ 60
  · rcases hp : pT s.data.toList with _ | ⟨u, n⟩
    · exact of_none s w h60 hp
    · have := of_some s w h60 u n hp
      rw [if_neg fun hh => ?_] at this
      · exact this
      · have h1 : rdT s.data.toList = some u := by
          unfold rdT
          rw [if_pos (by simpa using h60), hp]
          simp only
          rw [if_pos (by simpa using hh.1)]
        unfold ringT at h
        rw [h1] at h
        simp only at h
        rw [if_pos hh.2] at h
        cases h
  · exact of_long s w (by omega)
end Go.Proofs.YtehadbpbkenccaaGreatDoor
