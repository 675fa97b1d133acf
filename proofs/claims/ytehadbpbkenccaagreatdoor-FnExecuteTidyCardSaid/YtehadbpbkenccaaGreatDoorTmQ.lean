/- The program's reading of a ring term: the term and the ring that it tells. -/
import Derived.Test.YtehadbpbkenccaaGreatDoorTmB
import Derived.Test.YtehadbpbkenccaaGreatDoorTmE
import Derived.Test.YtehadbpbkenccaaGreatDoorTmX
import Derived.Test.YtehadbpbkenccaaGreatDoorTmP
import Derived.Test.YtehadbpbkenccaaGreatDoorMA
import Derived.StillTailTactics
import Derived.BigRegion
namespace Go.Proofs.YtehadbpbkenccaaGreatDoor
open Go.ChangeShapes Go.WideShapes Go.ChangeAt Go.RowKit

theorem results_tct {fn : Func} {s p t : Tmp} (h : fn.results = #[.tmp s, .cell p 31, .tmp t]) (tmps : Array Value) (w : World) (g : Nat) (P : List Int) (hP : P.length = 7)
    (hp : tmps.getD p undef = .pointer (some ⟨g, 0, none⟩)) (hg : Arr w g P) :
    (results fn tmps).run Tryz.prog w = .ok (.tuple #[tmps.getD s undef, .agg (ints P).toArray, tmps.getD t undef]) w := by
  have hp' : tmps[p]?.getD undef = .pointer (some ⟨g, 0, none⟩) := by simpa using hp
  simp [results, h, hp', asAddr, run_loadVar_row (P := Tryz.prog) w g 31 31 _ (0, 0) _ hg Tryz.underlying31 rfl (by rw [ring_size]; simp [hP])]
theorem ret_tct {fn : Func} {R : Ending → World → Prop} {a : Act} {w : World} {s p t : Tmp} (h : fn.results = #[.tmp s, .cell p 31, .tmp t]) (g : Nat) (P : List Int) (hP : P.length = 7) (hp : a.tmps.getD p undef = .pointer (some ⟨g, 0, none⟩))
    (hg : Hid (Arr w g P)) (hd : a.defers = []) (hR : R (.returned (.tuple #[a.tmps.getD s undef, .agg (ints P).toArray, a.tmps.getD t undef])) w) : bodyPost Tryz.prog fn R .ret a w :=
  bodyPost_ret (results_tct h _ _ g P hP hp hg.out) hd hR

abbrev ring0 : Obj := .cells #[.int .i64 0, .int .i64 0, .int .i64 0, .int .i64 0, .int .i64 0, .int .i64 0, .int .i64 0] 31
/-- No ring term. -/
def QNo (w : World) (e : Ending) (w' : World) : Prop := e = .returned (.tuple #[.nilIface, .agg (ints neg7).toArray, .bool false]) ∧ Below w.heap.size w w'
def QYes (t : Tm) (w : World) (e : Ending) (w' : World) : Prop := ∃ v, e = .returned (.tuple #[v, agp (cutL (ptsU t.row) 0), .bool true]) ∧ TR w' (fun b => b < w'.heap.size) t v ∧ Below w.heap.size w w'

/-- A ring stored into the result's variable. -/
theorem put_ring {w W : World} {Q : List Int} (hb : Below (w.heap.size + 1) (w.alloc ring0) W) (hQ : Q.length = 7) :
    ∃ W', (stR ⟨w.heap.size, 0, none⟩ (.agg (ints Q).toArray)).run Tryz.prog W = .ok () W' ∧ Hid (Arr W' w.heap.size Q) ∧ Hid (Below w.heap.size w W') ∧ W.grownBy W' (some w.heap.size) ∧ W'.heap.size = W.heap.size := by
  have h1 : Arr W w.heap.size zero7 := (new_ring w).below hb (by omega)
  obtain ⟨W', r, a, g, s⟩ := stR_run (Q := Q) h1 rfl hQ
  have hs := hb.size
  simp at hs
  exact ⟨W', r, a, (((Below.refl w.heap.size w).alloc (Nat.le_refl _) _).trans (hb.mono (by omega))).grown g (by omega) (by simp), g, s⟩

attribute [local go_sem ↓] ldR_fold stR_fold in
set_option maxRecDepth 10000 in
set_option maxHeartbeats 1000000 in
theorem rr_no (s : ByteArray) (w : World) (hand : Hand w) (hs : s.size ≤ 1048576) (h : rdT s.data.toList = none) : Calls Tryz.prog 9 #[.string s] w (QNo w) := by
  have HRT := readTerm_any s (w.alloc ring0) hs
  rw [h] at HRT
  have H0 := Lib.hid (hand.alloc ring0)
  have HRT' := Lib.hid HRT
  clear HRT h hand hs
  go_enter Tryz.func9, Tryz.ntmps9
  go_wp2_with fail
  refine HRT'.out.mono ?_
  rintro e W1 ⟨n, rfl, hb1⟩
  have hs1 := hb1.size
  simp at hs1
  have hand1 := ((H0.out.on hb1).alloc (.cells #[.int .i64 0] 65))
  have hAS := Lib.hid (as_hit n ⟨W1.heap.size, 0, none⟩ (.int .i64 0) (W1.alloc (.cells #[.int .i64 0] 65)) hand1 (by simp) (by simp))
  have HB1 := Lib.hid (show Below (w.heap.size + 1) (w.alloc ring0) (W1.alloc (.cells #[.int .i64 0] 65)) by simpa using hb1.alloc hb1.size (.cells #[.int .i64 0] 65))
  clear hb1 hand1 H0 HRT'
  go_wp2_with fail
  refine hAS.out.mono ?_
  rintro e W3 ⟨rfl, hb3⟩
  have HB3 := Lib.hid (HB1.out.trans (hb3.mono (by show _ ≤ W1.heap.size; omega)))
  clear hb3 hAS HB1
  go_wp2_with fail
  refine (empty_any W3).mono ?_
  rintro e W4 ⟨rfl, hb4⟩
  obtain ⟨W5, r5, a5, b5, g5, s5⟩ := put_ring (Q := neg7) (HB3.out.trans (hb4.mono (by have := HB3.out.size; simpa using this))) rfl
  simp only [ints, List.map_cons, List.map_nil] at r5
  clear hb4 HB3 g5 s5
  go_wp2
  exact ret_tct rfl w.heap.size neg7 rfl rfl a5 rfl ⟨rfl, b5.out⟩

theorem readP_length (l : List Int) : (readP l).length = 7 := by
  unfold readP
  split
  · rename_i h; exact padR_length l h.2.1
  · rfl

attribute [local go_sem ↓] ldR_fold stR_fold in
set_option maxRecDepth 10000 in
set_option maxHeartbeats 4000000 in
theorem rr_tell (s : ByteArray) (w : World) (hs : s.size ≤ 1048576) (t : Tm) (h : rdT s.data.toList = some t) (hT : ¬ Tell (ptsU t.row)) : Calls Tryz.prog 9 #[.string s] w (QNo w) := by
  obtain ⟨hok, hlen, h60⟩ := rdT_ok h
  have hrow := trow_le t
  have HRT := readTerm_any s (w.alloc ring0) hs
  rw [h] at HRT
  have HRT' := Lib.hid HRT
  have HPT := Lib.hid (fun W => points_any (bs t.row) W (by rw [bs_list]; exact row_L t hok) (by rw [bs_size]; omega))
  rw [bs_size, bs_list] at HPT
  have HRC := Lib.hid (fun (v : Value) (W : World) (h : TR W (fun b => b < W.heap.size) t v) => row_any hok (by omega) h)
  obtain ⟨n, hn⟩ : ∃ n, n = t.row.length := ⟨_, rfl⟩
  have hn60 : n ≤ 60 := by omega
  rw [← hn] at HPT
  have hlp : (ptsU t.row).length = n := by rw [ptsU_len]; omega
  have HTL : Hid (tell (ptsU t.row) = false) := tell_no hT
  have h7 := readP_length (ptsU t.row)
  obtain ⟨l, hl⟩ : ∃ l, l = ptsU t.row := ⟨_, rfl⟩
  rw [← hl] at HPT HTL h7 hlp
  have HLP := Lib.hid hlp
  obtain ⟨p0, p1, p2, p3, p4, p5, p6, hP⟩ := seven h7
  have HP7 := Lib.hid hP
  obtain ⟨r, hr⟩ : ∃ r, r = bs t.row := ⟨_, rfl⟩
  have HRW : Hid (∀ (v : Value) (W : World), TR W (fun b => b < W.heap.size) t v → RowC W t.row v) := HRC.out
  rw [← hr] at HPT
  have HR := Lib.hid hr
  have x1 := m_let
  have x2 := m_sgn
  have x3 := m_brk
  clear HRT HRC h hs hT hn hlp h7 hl hP hr hok hlen h60 hrow
  go_enter Tryz.func9, Tryz.ntmps9
  go_wp2_with fail
  refine HRT'.out.mono ?_
  rintro e W1 ⟨v, rfl, hv, hb1⟩
  have hs1 := hb1.size
  simp at hs1
  have HB1 := Lib.hid (show Below (w.heap.size + 1) (w.alloc ring0) (W1.alloc (.cells #[.int .i64 0] 65)) by simpa using hb1.alloc hb1.size (.cells #[.int .i64 0] 65))
  have hv2 : TR (W1.alloc (.cells #[.int .i64 0] 65)) (fun b => b < (W1.alloc (.cells #[.int .i64 0] 65)).heap.size) t v :=
    TR.keep (fun k hk => Below.heap_alloc W1 _ k hk.2) (fun k hk => by have := hk.2; simp; omega) t v hv
  have HC := Lib.hid (HRW.out v _ hv2)
  have hcs := hv.cases
  clear hb1 HRT' HRW hv hv2
  rcases hcs with ⟨x, rfl⟩ | ⟨y, rfl⟩ | ⟨a, m, c', rfl⟩
  all_goals
    go_wp2_with (first
      | (go_at_call 22; refine (as_nil _ _).mono ?_; rintro e w' ⟨rfl, rfl⟩)
      | (go_at_call 345; refine (HC.out.let_ _ rfl).mono ?_; rintro e w3 ⟨rfl, hb3⟩; rw [← HR.out])
      | (go_at_call 340; refine (HC.out.sgn_ _ rfl).mono ?_; rintro e w3 ⟨rfl, hb3⟩; rw [← HR.out])
      | (go_at_call 242; refine (HC.out.brk_ _ _ _ rfl).mono ?_; rintro e w3 ⟨rfl, hb3⟩; rw [← HR.out]))
    have HB3 := Lib.hid (HB1.out.trans (hb3.mono (by simp; omega)))
    clear hb3 HC HR x1 x2 x3 HB1
    refine (HPT.out w3).mono ?_
    rintro e w4 ⟨rfl, ho4, hb4⟩
    have hs3 := HB3.out.size
    simp at hs3
    have HB4 := Lib.hid (HB3.out.trans (hb4.mono (by omega)))
    have hrd := ho4.rd.2
    have hs4 := hb4.size
    clear hb4 HB3 HPT ho4
    have HRT := readT_any (some ⟨w3.heap.size, 0, none⟩) n n w4.heap.size l w4 hrd (Nat.le_refl _) (by omega) (Nat.le_refl _) (by omega)
    rw [HP7.out, HTL.out] at HRT
    simp only [ints, List.map_cons, List.map_nil] at HRT
    have HRT' := Lib.hid HRT
    clear HRT hrd
    go_wp2_with fail
    refine HRT'.out.mono ?_
    rintro e w5 ⟨rfl, hb5⟩
    have HB5 := Lib.hid (HB4.out.trans (hb5.mono (by omega)))
    have hs5 := hb5.size
    clear hb5 HB4 HRT'
    obtain ⟨W7, r7, a7, b7, g7, s7⟩ := put_ring (w := w5) (W := w5.alloc ring0) (Q := [p0, p1, p2, p3, p4, p5, p6]) (Below.refl _ _) rfl
    simp only [ints, List.map_cons, List.map_nil] at r7
    have HB7 := Lib.hid (HB5.out.trans (b7.out.mono (by omega)))
    have hs7 : w5.heap.size + 1 ≤ W7.heap.size := by rw [s7]; simp
    clear g7 s7 b7 HB5 a7
    go_wp2_with fail
    refine (empty_any W7).mono ?_
    rintro e W8 ⟨rfl, hb8⟩
    obtain ⟨W9, r9, a9, b9, g9, s9⟩ := put_ring (Q := neg7) (HB7.out.trans (hb8.mono (by omega))) rfl
    simp only [ints, List.map_cons, List.map_nil] at r9
    clear hb8 HB7 g9 s9
    go_wp2
    exact ret_tct rfl w.heap.size neg7 rfl rfl a9 rfl ⟨rfl, b9.out⟩
attribute [local go_sem ↓] ldR_fold stR_fold in
set_option maxRecDepth 10000 in
set_option maxHeartbeats 4000000 in
theorem rr_yes (s : ByteArray) (w : World) (hs : s.size ≤ 1048576) (t : Tm) (h : rdT s.data.toList = some t) (hT : Tell (ptsU t.row)) : Calls Tryz.prog 9 #[.string s] w (QYes t w) := by
  obtain ⟨hok, hlen, h60⟩ := rdT_ok h
  have hrow := trow_le t
  have HRT := readTerm_any s (w.alloc ring0) hs
  rw [h] at HRT
  have HRT' := Lib.hid HRT
  have HPT := Lib.hid (fun W => points_any (bs t.row) W (by rw [bs_list]; exact row_L t hok) (by rw [bs_size]; omega))
  rw [bs_size, bs_list] at HPT
  have HRC := Lib.hid (fun (v : Value) (W : World) (h : TR W (fun b => b < W.heap.size) t v) => row_any hok (by omega) h)
  obtain ⟨n, hn⟩ : ∃ n, n = t.row.length := ⟨_, rfl⟩
  have hn60 : n ≤ 60 := by omega
  rw [← hn] at HPT
  have hlp : (ptsU t.row).length = n := by rw [ptsU_len]; omega
  have HTL : Hid (tell (ptsU t.row) = true) := tell_yes hT
  obtain ⟨l, hl⟩ : ∃ l, l = ptsU t.row := ⟨_, rfl⟩
  have hq : QYes t w = fun e w' => ∃ v, e = .returned (.tuple #[v, agp (cutL l 0), .bool true]) ∧ TR w' (fun b => b < w'.heap.size) t v ∧ Below w.heap.size w w' := by rw [hl]; rfl
  rw [hq]
  clear hq
  rw [← hl] at HPT HTL hlp hT
  have h7 := readP_length l
  obtain ⟨q0, q1, q2, q3, q4, q5, q6, hQ⟩ := seven (padR_length (cutL l 0) (by simpa using hT.2.1))
  have hrp : readP l = padR l := by rw [readP, if_pos hT]
  have HCUT := fun W => cut_any l 0 W (by have := hT.1; omega) hT.2.1 hT.pos hT.zero
  have HLP := Lib.hid hlp
  obtain ⟨p0, p1, p2, p3, p4, p5, p6, hP⟩ := seven h7
  have HP7 := Lib.hid hP
  simp only [agp] at HCUT
  rw [← hrp, hP, hQ] at HCUT
  simp only [ints, List.map_cons, List.map_nil] at HCUT
  have HCU := Lib.hid HCUT
  have hag : Hid (agp (cutL l 0) = ag q0 q1 q2 q3 q4 q5 q6) := by rw [Hid, agp, hQ]; rfl
  rw [hag.out]
  clear HCUT hrp hag hQ
  obtain ⟨r, hr⟩ : ∃ r, r = bs t.row := ⟨_, rfl⟩
  have HRW : Hid (∀ (v : Value) (W : World), TR W (fun b => b < W.heap.size) t v → RowC W t.row v) := HRC.out
  rw [← hr] at HPT
  have HR := Lib.hid hr
  have x1 := m_let
  have x2 := m_sgn
  have x3 := m_brk
  clear HRT HRC h hs hT hn hlp h7 hl hP hr hok hlen h60 hrow
  go_enter Tryz.func9, Tryz.ntmps9
  go_wp2_with fail
  refine HRT'.out.mono ?_
  rintro e W1 ⟨v, rfl, hv, hb1⟩
  have hs1 := hb1.size
  simp at hs1
  have HB1 := Lib.hid (show Below (w.heap.size + 1) (w.alloc ring0) W1 by simpa using hb1)
  have hv2 : TR (W1.alloc (.cells #[.int .i64 0] 65)) (fun b => b < (W1.alloc (.cells #[.int .i64 0] 65)).heap.size) t v :=
    TR.keep (fun k hk => Below.heap_alloc W1 _ k hk.2) (fun k hk => by have := hk.2; simp; omega) t v hv
  have HC := Lib.hid (HRW.out v _ hv2)
  have hcs := hv.cases
  have HV : Hid (∀ W, (∀ k, w.heap.size + 1 ≤ k → k < W1.heap.size → W.heap[k]? = W1.heap[k]?) → W1.heap.size ≤ W.heap.size → TR W (fun b => b < W.heap.size) t v) := fun W h1 h2 => TR.keep (fun k hk => h1 k (by have := hk.1; simp at this; omega) hk.2) (fun k hk => by have := hk.2; omega) t v hv
  have HD1 := Lib.hid ((Below.refl W1.heap.size W1).alloc (Nat.le_refl _) (.cells #[.int .i64 0] 65))
  clear hb1 HRT' HRW hv hv2
  rcases hcs with ⟨x, rfl⟩ | ⟨y, rfl⟩ | ⟨a, m, c', rfl⟩
  all_goals
    go_wp2_with (first
      | (go_at_call 22; refine (as_nil _ _).mono ?_; rintro e w' ⟨rfl, rfl⟩)
      | (go_at_call 345; refine (HC.out.let_ _ rfl).mono ?_; rintro e w3 ⟨rfl, hb3⟩; rw [← HR.out])
      | (go_at_call 340; refine (HC.out.sgn_ _ rfl).mono ?_; rintro e w3 ⟨rfl, hb3⟩; rw [← HR.out])
      | (go_at_call 242; refine (HC.out.brk_ _ _ _ rfl).mono ?_; rintro e w3 ⟨rfl, hb3⟩; rw [← HR.out]))
    have HB3 := Lib.hid (HD1.out.trans (hb3.mono (by simp)))
    clear hb3 HC HR x1 x2 x3 HD1
    refine (HPT.out w3).mono ?_
    rintro e w4 ⟨rfl, ho4, hb4⟩
    have hs3 := HB3.out.size
    have HB4 := Lib.hid (HB3.out.trans (hb4.mono (by omega)))
    have hrd := ho4.rd.2
    have hs4 := hb4.size
    clear hb4 HB3 HPT ho4
    have HRT := readT_any (some ⟨w3.heap.size, 0, none⟩) n n w4.heap.size l w4 hrd (Nat.le_refl _) (by omega) (Nat.le_refl _) (by omega)
    rw [HP7.out, HTL.out] at HRT
    simp only [ints, List.map_cons, List.map_nil] at HRT
    have HRT' := Lib.hid HRT
    clear HRT hrd
    go_wp2_with fail
    refine HRT'.out.mono ?_
    rintro e w5 ⟨rfl, hb5⟩
    have HB5 := Lib.hid (HB4.out.trans (hb5.mono (by omega)))
    have hs5 := hb5.size
    clear hb5 HB4 HRT'
    obtain ⟨W7, r7, a7, b7, g7, s7⟩ := put_ring (w := w5) (W := w5.alloc ring0) (Q := [p0, p1, p2, p3, p4, p5, p6]) (Below.refl _ _) rfl
    simp only [ints, List.map_cons, List.map_nil] at r7
    have HB7 := Lib.hid (HB5.out.trans (b7.out.mono (by omega)))
    have hs7 : w5.heap.size + 1 ≤ W7.heap.size := by rw [s7]; simp
    have r8 := ldR_run a7.out rfl
    simp only [ints, List.map_cons, List.map_nil] at r8
    clear g7 s7 b7 HB5 a7
    go_wp2_with fail
    refine (HCU.out W7).mono ?_
    rintro e W8 ⟨rfl, hb8⟩
    have HB8 := Lib.hid (HB7.out.trans (hb8.mono (by omega)))
    obtain ⟨W9, r9, a9, b9, g9, s9⟩ := put_ring (Q := [q0, q1, q2, q3, q4, q5, q6]) (HB1.out.trans (HB8.out.mono (by omega))) rfl
    simp only [ints, List.map_cons, List.map_nil] at r9
    have HW := Lib.hid (HV.out W9 (fun k h1 h2 => (g9.block k (by have := HB8.out.size; omega) (by simp; omega)).trans (HB8.out.block k h2)) (by rw [s9]; exact HB8.out.size))
    clear hb8 HB7 g9 s9 HV HB8
    go_wp2
    exact ret_tct rfl w.heap.size [q0, q1, q2, q3, q4, q5, q6] rfl rfl a9 rfl ⟨_, rfl, HW.out, b9.out⟩

/-- The ring term that a text is. -/
def ringT (l : List UInt8) : Option Tm := match rdT l with | none => none | some t => if Tell (ptsU t.row) then some t else none
theorem ringT_ok {l : List UInt8} {t : Tm} (h : ringT l = some t) : rdT l = some t ∧ Tell (ptsU t.row) := by
  unfold ringT at h
  rcases hr : rdT l with _ | u
  · rw [hr] at h; cases h
  · rw [hr] at h
    simp only at h
    by_cases ht : Tell (ptsU u.row)
    · rw [if_pos ht] at h
      obtain rfl := Option.some.inj h
      exact ⟨rfl, ht⟩
    · rw [if_neg ht] at h; cases h
theorem rrYes (s : ByteArray) (w : World) (_hand : Hand w) (hs : s.size ≤ 1048576) (t : Tm) (h : ringT s.data.toList = some t) : Calls Tryz.prog 9 #[.string s] w (QYes t w) :=
  rr_yes s w hs t (ringT_ok h).1 (ringT_ok h).2
theorem rrNo (s : ByteArray) (w : World) (hand : Hand w) (hs : s.size ≤ 1048576) (h : ringT s.data.toList = none) : Calls Tryz.prog 9 #[.string s] w (QNo w) := by
  unfold ringT at h
  rcases hr : rdT s.data.toList with _ | u
  · exact rr_no s w hand hs hr
  · rw [hr] at h
    simp only at h
    by_cases ht : Tell (ptsU u.row)
    · rw [if_pos ht] at h; cases h
    · exact rr_tell s w hs u hr ht
end Go.Proofs.YtehadbpbkenccaaGreatDoor
