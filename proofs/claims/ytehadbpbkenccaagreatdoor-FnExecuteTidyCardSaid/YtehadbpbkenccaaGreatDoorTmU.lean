/- The model's reading of the terms in brackets. -/
import Derived.Test.YtehadbpbkenccaaGreatDoorTmT
import Derived.Test.YtehadbpbkenccaaGreatDoorTmB
namespace Go.Proofs.YtehadbpbkenccaaGreatDoor
open Go.ChangeShapes Go.WideShapes Go.ChangeAt Go.RowKit

/-- The model's row of terms read so far: its block from B on; the variable that holds it is B + 1. -/
def Row9 (w : World) (B : Nat) (v : Value) (ts : List Tm) : Prop :=
  (∃ vs, w.ownsRow B 37 2 v ts.length vs ∧ TSs w (fun k => Btw (B + 2) w.heap.size k ∧ some k ≠ v.ownBlock) ts vs) ∧ some (B + 1) ≠ v.ownBlock
theorem info9 : (Tryz.prog.info? 37).map (fun i => (i.zero, i.size, i.bytes)) = some (some (.agg #[.int .u8 0, .slice none 0 0]), 2, 32) := by kernel_rfl
theorem Row9.form {w : World} {B : Nat} {v : Value} {ts : List Tm} (h : Row9 w B v ts) : ∃ A c, v = .slice A ts.length c := by
  obtain ⟨⟨vs, ho, _⟩, _⟩ := h
  rcases ho.2 with ⟨e, h0⟩ | ⟨g, cap, cur, e, _⟩
  · exact ⟨none, 0, by rw [e, h0]⟩
  · exact ⟨_, cap, e⟩
theorem Row9.ts {w : World} {B : Nat} {A : Option Addr} {n c : Nat} {ts : List Tm} (h : Row9 w B (.slice A n c) ts) (h2 : 2 ≤ ts.length) : TS w (Btw B w.heap.size) (.B ts) (.int .u8 40) (.slice A n c) := by
  obtain ⟨⟨vs, ho, hr⟩, _⟩ := h
  rcases ho.2 with ⟨_, h0⟩ | ⟨g, cap, cur, e, hB, hg, hn, hm, _, ht⟩
  · omega
  · rw [TS]
    injection e with e1 e2 e3
    subst e1; subst e2; subst e3
    refine ⟨rfl, g, c, cur, rfl, hn, ⟨hB, (Array.getElem?_eq_some_iff.1 hg).1⟩, hg, ?_⟩
    rw [ht]
    exact TSs.keep (fun k _ => rfl) (fun k hk => ⟨by have := hk.1.1; omega, hk.1.2⟩) _ _ hr
theorem Row9.step {w w1 : World} {B : Nat} {v a x y : Value} {ts : List Tm} {t : Tm} (h : Row9 w B v ts) (h9 : V9 w (B + 1) a v) (hb : Below w.heap.size w w1) (ht : TS w1 (Btw w.heap.size w1.heap.size) t x y) (hl : ts.length ≤ 3000)
    (hx : x.oneCell' = true) (hy : y.oneCell' = true) :
    ∃ v' w', (∀ ty, (apT #[35, 35] ty #[v, .slice (some ⟨w1.heap.size, 0, none⟩) 1 1]).run Tryz.prog (w1.alloc (.cells #[x, y] 37)) = .ok v' w') ∧ V9 w' (B + 1) a v ∧
      Row9 (w'.setCell ⟨B + 1, 1, none⟩ v') B v' (ts ++ [t]) ∧ V9 (w'.setCell ⟨B + 1, 1, none⟩ v') (B + 1) a v' ∧ Below B w (w'.setCell ⟨B + 1, 1, none⟩ v') ∧ (∃ A c, v' = .slice A (ts.length + 1) c) ∧ w.heap.size ≤ w'.heap.size := by
  obtain ⟨⟨vs, ho, hr⟩, hne0⟩ := h
  obtain ⟨i0, hi, hz0, hz1, hz2⟩ := info_parts info9
  have hs := hb.size
  have hB1 := h9.lt
  have ho1 : (w1.alloc (.cells #[x, y] 37)).ownsRow B 37 2 v ts.length vs := by
    refine World.ownsRow.alloc ?_ _
    refine ⟨ho.1, ?_⟩
    rcases ho.2 with e | ⟨g, cap, cur, e, hbb, hg, rest⟩
    · exact .inl e
    · exact .inr ⟨g, cap, cur, e, hbb, (hb.block g (Array.getElem?_eq_some_iff.1 hg).1).trans hg, rest⟩
  have hlt := fun k hk => World.ownsRow.lt ho k hk
  obtain ⟨v', w', hrun, hown, hgr, _, hob⟩ := run_append_own_at (P := Tryz.prog) (w := w1.alloc (.cells #[x, y] 37)) B 35 35 37 i0 (.agg #[.int .u8 0, .slice none 0 0]) 2 32 Tryz.underlying35 hi hz0 hz1 hz2 rfl (by decide) v ts.length vs ho1 ⟨w1.heap.size, 0, none⟩ 1 1 [x, y] rfl
    (fun j u hj => by
      have hV := V9.new w1 x y
      rcases j with _ | _ | j
      · simp at hj; subst hj; rw [Addr.add_lit]; exact hV.c0
      · simp at hj; subst hj; rw [Addr.add_lit]; exact hV.c1
      · simp at hj) (by simp [hx, hy]) (by unfold maxLen; omega) (by omega) (by simp; omega)
  have hsz : w1.heap.size + 1 ≤ w'.heap.size := by have := hgr.size; simpa using this
  have hk : ∀ k, k < w1.heap.size → some k ≠ v.ownBlock → w'.heap[k]? = w1.heap[k]? := fun k hk hne =>
    (hgr.block k (by simp; omega) hne).trans (Below.heap_alloc w1 _ k hk)
  have h9' : V9 w' (B + 1) a v := (hk _ (by omega) hne0).trans ((hb.block _ hB1).trans h9)
  have hne' : ∀ k, k < w1.heap.size → some k ≠ v.ownBlock → some k ≠ v'.ownBlock := fun k hk hne => by
    rcases hob with e | e
    · rw [e]; exact hne
    · rw [e]; simp; omega
  have hset : ∀ k, k ≠ B + 1 → (w'.setCell ⟨B + 1, 1, none⟩ v').heap[k]? = w'.heap[k]? := fun k hk => Below.heap_setCell _ _ _ _ hk
  have hf : ∃ A c, v' = .slice A (ts.length + 1) c := by
    rcases hown.2 with ⟨e, h0⟩ | ⟨g, cap, cur, e, _⟩
    · omega
    · exact ⟨_, cap, e⟩
  refine ⟨v', w', fun _ => hrun, h9', ⟨⟨vs ++ [x, y], ?_, ?_⟩, hne' _ (by omega) hne0⟩, ?_, ?_, hf, by omega⟩
  · rw [List.length_append, List.length_singleton]
    refine ⟨hown.1, ?_⟩
    rcases hown.2 with e | ⟨g, cap, cur, e, hbb, hg, rest⟩
    · exact .inl e
    · refine .inr ⟨g, cap, cur, e, hbb, (hset g ?_).trans hg, rest⟩
      intro e2
      have := hne' (B + 1) (by omega) hne0
      rw [e] at this
      simp [Value.ownBlock] at this
      omega
  · have hz : (w'.setCell ⟨B + 1, 1, none⟩ v').heap.size = w'.heap.size := by simp
    rw [hz]
    refine TSs.snoc (TSs.keep (w := w) (fun k hk' => ?_) (fun k hk' => ?_) _ _ hr) (TS.keep (w := w1) (fun k hk' => ?_) (fun k hk' => ?_) _ _ _ ht)
    · rw [hset k (by have := hk'.1.1; omega), hk k (by have := hk'.1.2; omega) hk'.2]; exact hb.block k hk'.1.2
    · exact ⟨⟨hk'.1.1, by have := hk'.1.2; omega⟩, hne' k (by have := hk'.1.2; omega) hk'.2⟩
    · rw [hset k (by have := hk'.1; omega)]
      exact hk k hk'.2 fun e => by have := (hlt k e.symm).2; have := hk'.1; omega
    · exact ⟨⟨by have := hk'.1; omega, by have := hk'.2; omega⟩, hne' k hk'.2 fun e => by have := (hlt k e.symm).2; have := hk'.1; omega⟩
  · exact (heap_setCell_same w' (B + 1) 1 _ _ _ h9').trans (by simp)
  · exact (((hb.mono (by omega)).alloc (by omega) _).grown hgr (by simp; omega) fun k hk' => (hlt k hk').1).setCell (by show B ≤ B + 1; omega) _

/-- What the model's reading that begins at k0 hands back. -/
def SRes (r : Option (Tm × Nat)) (k0 : Nat) (w : World) (e : Ending) (w' : World) : Prop :=
  match r with
  | none => SNo w e w'
  | some (t, n) => SYes t (k0 + n) w e w'

/-- The row and its variable, new. -/
theorem new9 (W : World) : ∃ W5, (st9 ⟨W.heap.size + 1, 0, none⟩ (.agg #[.int .u8 40, .slice (some ⟨W.heap.size, 0, none⟩) 0 0])).run Tryz.prog ((W.alloc (.cells #[] 37)).alloc z9) = .ok () W5 ∧
    Hid (Row9 W5 W.heap.size (.slice (some ⟨W.heap.size, 0, none⟩) 0 0) []) ∧ Hid (V9 W5 (W.heap.size + 1) (.int .u8 40) (.slice (some ⟨W.heap.size, 0, none⟩) 0 0)) ∧ Hid (Below W.heap.size W W5) := by
  have h1 : V9 ((W.alloc (.cells #[] 37)).alloc z9) (W.heap.size + 1) (.int .u8 0) (.slice none 0 0) := by
    have := V9.new (W.alloc (.cells #[] 37)) (.int .u8 0) (.slice none 0 0)
    simpa using this
  obtain ⟨W5, r, a, g, s⟩ := h1.st (x' := .int .u8 40) (y' := .slice (some ⟨W.heap.size, 0, none⟩) 0 0) rfl rfl
  refine ⟨W5, r, ⟨⟨[], ⟨by simp, .inr ⟨W.heap.size, 0, #[], rfl, Nat.le_refl _, ?_, Nat.le_refl _, by decide, by simp, by simp⟩⟩, TSs.nil⟩, by simp [Value.ownBlock]⟩, a, ?_⟩
  · rw [g.block W.heap.size (by simp; omega) (by simp)]
    exact (Below.heap_alloc _ _ _ (by simp)).trans (heap_alloc_new W _)
  · exact (((Below.refl W.heap.size W).alloc (Nat.le_refl _) _).alloc (by simp) _).grown g (by simp; omega) (by simp)

attribute [local go_sem ↓] ld9_fold st9_fold apT_fold in
set_option maxRecDepth 10000 in
set_option maxHeartbeats 2000000 in
theorem s_brk (s : ByteArray) (k0 : Nat) (w : World) (hk0 : k0 < s.size) (h60 : s.size ≤ 60) (hc : s[k0].toNat = 40)
    (HT : Hid (∀ k W, k0 + 1 ≤ k → k ≤ s.size → Calls Tryz.prog 29 #[.string s, .int .i64 (k : Int)] W (SRes (pT (sf s k)) k W))) :
    Calls Tryz.prog 29 #[.string s, .int .i64 (k0 : Int)] w (SRes (asB (pB (sf s (k0 + 1)) [])) (k0 + 1) w) := by
  obtain ⟨r, hr⟩ : ∃ r, r = asB (pB (sf s (k0 + 1)) []) := ⟨_, rfl⟩
  rw [← hr]
  have HR := Lib.hid hr
  clear hr
  obtain ⟨W, r0, h0, hn, hb, hs⟩ := pro9 w
  obtain ⟨W5, r5, hrow, h9, hb5⟩ := new9 W
  have hdd : decide (s.size ≤ k0) = false := by simp; omega
  go_enter Tryz.func29, Tryz.ntmps29
  go_wp2_with fail
  obtain ⟨B, hB⟩ : ∃ B, B = W.heap.size := ⟨_, rfl⟩
  have HB := Lib.hid hB
  rw [← hB] at hrow h9 hb5 ⊢
  clear hB r0 r5
  go_loopw [1] (fun a wr => ∃ (k : Nat) (ts : List Tm) (v : Value), a = .int .i64 (k : Int) ∧ k0 + 1 ≤ k ∧ k ≤ s.size ∧ Hid (Row9 wr B v ts) ∧ Hid (V9 wr (B + 1) (.int .u8 40) v) ∧ ts.length ≤ k ∧ Hid (Below B W wr) ∧
    Hid (pB (sf s (k0 + 1)) [] = (pB (sf s k) ts).map fun r => (r.1, r.2 + (k - (k0 + 1))))) (fun a _ => s.size - (intOf a).toNat)
  case atStart => exact ⟨k0 + 1, [], _, by first | rfl | go_num, Nat.le_refl _, by omega, hrow, h9, by simp, hb5, by rw [Hid]; cases pB (sf s (k0 + 1)) [] <;> simp⟩
  case round =>
    obtain ⟨k, ts, v, rfl, hk1, hk2, hrw, h9w, hl, hbw, HP⟩ := hrel
    clear hrow h9 hb5
    obtain ⟨A, c, hv⟩ := hrw.out.form
    subst hv
    have hBs : B + 2 ≤ wr.heap.size := by have := h9w.out.lt; omega
    have hz : B = w.heap.size + 3 := by rw [HB.out]; exact hs.out
    have HZ := Lib.hid hz
    have h0w := Lib.hid (h0.out.below hbw.out (by omega))
    have hnw := Lib.hid (hn.out.below hbw.out (by omega))
    have HBW : Hid (Below w.heap.size w wr) := hb.out.trans (hbw.out.mono (by omega))
    have c0 := h9w.out.c0
    have c1 := h9w.out.c1
    clear hz
    by_cases hlt : k < s.size
    · by_cases hc41 : s[k] = 41
      · have hc' : s[k].toNat = 41 := by rw [hc41]; rfl
        have HQ : Hid (pB (sf s k) ts = if 2 ≤ ts.length then some (ts, 1) else none) := by rw [Hid, sf_cons s k hlt, hc41, pB_close]
        have hq : decide ((k : Int) ≥ (s.size : Int)) = false := by simp; omega
        by_cases h2 : 2 ≤ ts.length
        · have l1 := h9w.out.ld
          obtain ⟨W', r', a', b', g', s'⟩ := fin9 (x' := .int .u8 40) (y' := .slice A ts.length c) h0w.out HBW.out rfl rfl
          have e : r = some (.B ts, k + 1 - (k0 + 1)) := by
            rw [HR.out, HP.out, HQ.out, if_pos h2, asB, Option.map_some, Option.map_some]
            show some _ = some _
            rw [show 1 + (k - (k0 + 1)) = k + 1 - (k0 + 1) by omega]
          have HTS : Hid (TS W' (Btw w.heap.size W'.heap.size) (.B ts) (.int .u8 40) (.slice A ts.length c)) :=
            TS.keep (fun k hk => g'.block k hk.2 (by have := hk.1; have := HZ.out; simp; omega)) (fun k hk => ⟨by have := hk.1; have := HZ.out; omega, by rw [s']; exact hk.2⟩) _ _ _ (hrw.out.ts h2)
          have HE := Lib.hid e
          clear e g' s' hrw
          go_wp2_with fail
          rw [HE.out]
          exact ret_ct9 rfl w.heap.size _ _ rfl a' rfl ⟨_, _, by rw [show k0 + 1 + (k + 1 - (k0 + 1)) = k + 1 by omega]; rfl, HTS.out, b'.out⟩
        · have l1 := hnw.out.ld
          obtain ⟨W', r', a', b', g', s'⟩ := fin9 (x' := .int .u8 97) (y' := .slice (some ⟨w.heap.size + 1, 0, none⟩) 0 0) h0w.out HBW.out rfl rfl
          have e : r = none := by rw [HR.out, HP.out, HQ.out, if_neg h2]; rfl
          have HE := Lib.hid e
          clear e g' s' hrw
          go_wp2_with fail
          rw [HE.out]
          exact ret_ct9 rfl w.heap.size _ _ rfl a' rfl ⟨_, _, _, _, rfl, b'.out⟩
      · have hc' : ((s[k].toNat : Int) != 41) = true := by
          simp; intro e; exact hc41 (UInt8.toNat_inj.1 (by simp; omega))
        have HC := Lib.hid (HT.out k wr hk1 hk2)
        rcases hp : pT (sf s k) with _ | ⟨t, n⟩
        · rw [hp] at HC
          have HQ : Hid (pB (sf s k) ts = none) := by rw [Hid, sf_cons s k hlt, pB_none _ _ hc41 (by rw [← sf_cons s k hlt]; exact hp)]
          clear hp
          have HE : Hid (r = none) := by rw [Hid, HR.out, HP.out, HQ.out]; rfl
          go_wp2_with fail
          refine HC.out.mono ?_
          rintro e w1 ⟨c2, A2, n2, d2, rfl, hb1⟩
          have hs1 := hb1.size
          obtain ⟨W2, r2, a2, b2, g2, s2⟩ := fin9 (w := w1) (x' := .int .u8 c2) (y' := .slice A2 n2 d2) (V9.new w1 (.int .u8 0) (.slice none 0 0)) ((Below.refl _ _).alloc (Nat.le_refl _) _) rfl rfl
          have HB2 : Hid (Below wr.heap.size wr W2) := hb1.trans (b2.out.mono (by omega))
          have l1 := (hnw.out.below HB2.out (by have := HZ.out; omega)).ld
          obtain ⟨W', r', a', b', g', s'⟩ := fin9 (w := w) (x' := .int .u8 97) (y' := .slice (some ⟨w.heap.size + 1, 0, none⟩) 0 0) (h0w.out.below HB2.out (by have := HZ.out; omega)) (HBW.out.trans (HB2.out.mono (by have := HZ.out; omega))) rfl rfl
          clear g' s' g2 s2 hb1
          go_wp2_with fail
          rw [HE.out]
          exact ret_ct9 rfl w.heap.size _ _ rfl a' rfl ⟨_, _, _, _, rfl, b'.out⟩
        · rw [hp] at HC
          obtain ⟨hok, hlen, hn'⟩ := pT_ok hp
          have h1 := len_pos t
          rw [sf_len] at hn'
          have HQ : Hid (pB (sf s k) ts = (pB (sf s (k + n)) (ts ++ [t])).map fun r => (r.1, r.2 + n)) := by
            rw [Hid, sf_cons s k hlt, pB_some _ _ hc41 (by rw [← sf_cons s k hlt]; exact hp), sf_drop, show k + 1 + (n - 1) = k + n by omega]
          clear hp
          have HC' : Hid (Calls Tryz.prog 29 #[.string s, .int .i64 (k : Int)] wr (SYes t (k + n) wr)) := HC.out
          obtain ⟨m, hm⟩ : ∃ m, m = k + n := ⟨_, rfl⟩
          rw [← hm] at HC' HQ
          have hm1 : k + 1 ≤ m := by omega
          have hm2 : m ≤ s.size := by omega
          have HM := Lib.hid hm
          have hm0 : ((m : Int) == 0) = false := by simp; omega
          clear HC hm hlen hn' h1
          go_wp2_with fail
          refine HC'.out.mono ?_
          rintro e w1 ⟨x, y, rfl, ht, hb1⟩
          have HT1 := Lib.hid ht
          obtain ⟨e1, A2, d2, e2⟩ := ht.form
          subst e1; subst e2
          have hs1 := hb1.size
          obtain ⟨W2, r2, a2, b2, g2, s2⟩ := fin9 (w := w1) (x' := .int .u8 (t.sig.toNat : Int)) (y' := .slice A2 t.kids.length d2) (V9.new w1 (.int .u8 0) (.slice none 0 0)) ((Below.refl _ _).alloc (Nat.le_refl _) _) rfl rfl
          have HB2 : Hid (Below wr.heap.size wr W2) := hb1.trans (b2.out.mono (by omega))
          have hs2 : w1.heap.size ≤ W2.heap.size := b2.out.size
          have HT2 : Hid (TS W2 (Btw wr.heap.size W2.heap.size) t (.int .u8 (t.sig.toNat : Int)) (.slice A2 t.kids.length d2)) :=
            TS.keep (fun k hk => b2.out.block k hk.2) (fun k hk => ⟨hk.1, by have := hk.2; omega⟩) _ _ _ HT1.out
          have l2 := a2.out.ld
          have c3 := (h9w.out.below HB2.out h9w.out.lt).c1
          obtain ⟨v', w5, hrun, h95, hrow6, h96, hb6, ⟨A', c', hv'⟩, hs5⟩ := hrw.out.step h9w.out HB2.out HT2.out (by omega) rfl rfl
          subst hv'
          have c5 := h95.c1
          have f5 := h95.fr 1
          have HRW6 := Lib.hid hrow6
          have H96 := Lib.hid h96
          have HB6 := Lib.hid hb6
          clear g2 s2 hb1 ht HT1 hrow6 h96 hb6 h95 a2 b2 HT2 hs2
          go_wp2_with fail
          go_roundw
          case rel =>
            refine ⟨m, ts ++ [t], _, rfl, by omega, by omega, HRW6.out, H96.out, by simp; omega, hbw.out.trans HB6.out, ?_⟩
            rw [Hid, HP.out, HQ.out]
            rw [Option.map_map]
            congr 1
            funext r
            show (r.1, _) = (r.1, _)
            rw [show r.2 + n + (k - (k0 + 1)) = r.2 + (m - (k0 + 1)) by have := HM.out; omega]
          case measure => simp [intOf]; omega
    · obtain rfl : k = s.size := by omega
      have HQ : Hid (pB (sf s s.size) ts = none) := by rw [Hid, sf_end, pB_nil]
      have HE : Hid (r = none) := by rw [Hid, HR.out, HP.out, HQ.out]; rfl
      have l1 := hnw.out.ld
      obtain ⟨W', r', a', b', g', s'⟩ := fin9 (x' := .int .u8 97) (y' := .slice (some ⟨w.heap.size + 1, 0, none⟩) 0 0) h0w.out HBW.out rfl rfl
      clear g' s' hrw
      go_wp2_with fail
      rw [HE.out]
      exact ret_ct9 rfl w.heap.size _ _ rfl a' rfl ⟨_, _, _, _, rfl, b'.out⟩

theorem s_all (s : ByteArray) (h60 : s.size ≤ 60) (m : Nat) : ∀ (k : Nat) (w : World), k ≤ s.size → s.size - k ≤ m →
    Calls Tryz.prog 29 #[.string s, .int .i64 (k : Int)] w (SRes (pT (sf s k)) k w) := by
  induction m with
  | zero =>
    intro k w h1 h2
    obtain rfl : k = s.size := by omega
    rw [sf_end, pT_nil]
    exact s_end s w
  | succ m ih =>
    intro k w h1 h2
    by_cases hlt : k < s.size
    · rw [sf_cons s k hlt]
      by_cases hL : isL s[k] = true
      · rw [pT_let _ hL]
        exact s_let s k w hlt (by omega) hL
      · have hL' : isL s[k] = false := by simpa using hL
        by_cases hs : s[k] = 45
        · have hs' : s[k].toNat = 45 := by rw [hs]; rfl
          rw [hs, pT_sign]
          have HC := fun W => ih (k + 1) W (by omega) (by omega)
          rw [show ((k + 1 : Nat) : Int) = (k : Int) + 1 by omega] at HC
          rcases hp : pT (sf s (k + 1)) with _ | ⟨t, n⟩
          · rw [hp] at HC
            exact s_sign0 s k w hlt (by omega) hs' HC
          · rw [hp] at HC
            have := s_sign1 s k w hlt (by omega) hs' t (k + 1 + n) HC
            rw [show k + 1 + n = k + (n + 1) by omega] at this
            exact this
        · by_cases ho : s[k] = 40
          · have ho' : s[k].toNat = 40 := by rw [ho]; rfl
            rw [ho, pT_open]
            have HC := s_brk s k w hlt h60 ho' fun k' w' ha hb => ih k' w' hb (by omega)
            rcases hp : pB (sf s (k + 1)) [] with _ | ⟨ts, n⟩
            · rw [hp] at HC
              exact HC
            · rw [hp] at HC
              have e : SRes (asB (some (ts, n))) (k + 1) w = SRes (some (.B ts, n + 1)) k w := by
                funext e w'
                show SYes _ (k + 1 + n) w e w' = SYes _ (k + (n + 1)) w e w'
                rw [show k + 1 + n = k + (n + 1) by omega]
              rw [e] at HC
              exact HC
          · rw [pT_bad _ hL' hs ho]
            exact s_bad s k w hlt hL' hs ho
    · obtain rfl : k = s.size := by omega
      rw [sf_end, pT_nil]
      exact s_end s w
theorem sres_some (t : Tm) (n : Nat) (w : World) : SRes (some (t, n)) 0 w = SYes t n w := by
  funext e w'
  show SYes t (0 + n) w e w' = _
  rw [Nat.zero_add]
theorem read9_any (s : ByteArray) (w : World) (h60 : s.size ≤ 60) : Calls Tryz.prog 29 #[.string s, .int .i64 0] w (SRes (pT s.data.toList) 0 w) :=
  s_all s h60 s.size 0 w (Nat.zero_le _) (by omega)

/-- The points of letters: the model's. -/
theorem take_pts (s : ByteArray) (k : Nat) (h : k < s.size) : (ptsU s.data.toList).take (k + 1) = (ptsU s.data.toList).take k ++ [(s[k].toNat : Int) - 97] := by
  have h' : k < s.data.size := h
  rw [List.take_succ_eq_append_getElem (by rw [ptsU_len]; simpa using h')]
  simp [ptsU]
  rfl
attribute [local go_sem ↓] apI_fold in
set_option maxRecDepth 10000 in
set_option maxHeartbeats 400000 in
theorem list9_any (s : ByteArray) (w : World) (hn : s.size ≤ 1000) :
    Calls Tryz.prog 31 #[.string s] w fun e w' => ∃ v, e = .returned v ∧ Own w' w.heap.size v (ptsU s.data.toList) ∧ Below w.heap.size w w' := by
  have HT := Lib.hid (take_pts s)
  obtain ⟨zs, hzs⟩ : ∃ zs, zs = ptsU s.data.toList := ⟨_, rfl⟩
  have hl : zs.length = s.size := by rw [hzs, ptsU_len]; simp
  rw [← hzs] at HT ⊢
  have HL := Lib.hid hl
  clear hzs hl
  have ho0 := own_empty w _ (Nat.le_refl _)
  have hb0 := (Below.refl w.heap.size w).alloc (Nat.le_refl _) (.cells #[] 3)
  go_enter Tryz.func31, Tryz.ntmps31
  go_wp2
  go_loopw [3, 4] (fun v i wr => ∃ k : Nat, k ≤ s.size ∧ i = .int .i64 k ∧ Own wr w.heap.size v (zs.take k) ∧ Below w.heap.size w wr) (fun _ i _ => s.size - (intOf i).toNat)
  case atStart => exact ⟨0, Nat.zero_le _, rfl, ho0, hb0⟩
  case round =>
    obtain ⟨k, hk, rfl, hown, hbl⟩ := hrel
    clear ho0 hb0
    have hB := hbl.size
    by_cases hlt : k < s.size
    · have hbt : s[k].toNat ≤ 255 := by have := s[k].toNat_lt; omega
      have hE := HT.out k hlt
      obtain ⟨v', w', hrun, hown', hgr⟩ := apI_run hown hB (by rw [List.length_take]; omega) ((s[k].toNat : Int) - 97)
      have hb' := apI_below hown hgr (Nat.le_refl _) hbl hB
      rw [← hE] at hown'
      have HO := Lib.hid hown'
      have HBL := Lib.hid hb'
      clear hown hown' hgr hb' hE HT
      go_wp2
      go_roundw
      case rel => exact ⟨k + 1, by omega, by go_num, HO.out, HBL.out⟩
      case measure => simp [intOf]; omega
    · obtain rfl : k = s.size := by omega
      have e : zs.take s.size = zs := List.take_of_length_le (by rw [HL.out]; omega)
      rw [e] at hown
      clear e
      go_wp2
      go_ret
      exact ⟨_, rfl, hown, hbl⟩
end Go.Proofs.YtehadbpbkenccaaGreatDoor
