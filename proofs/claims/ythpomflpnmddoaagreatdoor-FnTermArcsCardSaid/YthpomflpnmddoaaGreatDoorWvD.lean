/- slices.IndexFunc and slices.DeleteFunc over a row of ints of the call's own, for a closure over one variable that makes nothing. -/
import Derived.Test.YthpomflpnmddoaaGreatDoorWvI
import Derived.Test.YthpomflpnmddoaaGreatDoorPE
namespace Go.Proofs.YthpomflpnmddoaaGreatDoor
open Go.ChangeShapes Go.WideShapes Go.ChangeAt Go.RowKit

def sing (l : List Int) : List (List Int) := l.map fun x => [x]
theorem sing_flat (l : List Int) : (sing l).flatten = l := by
  induction l with
  | nil => rfl
  | cons x l ih => simp only [sing, List.map_cons, List.flatten_cons] at ih ⊢; rw [ih]; rfl
theorem sing_length (l : List Int) : (sing l).length = l.length := by simp [sing]
theorem sing_get (l : List Int) (k : Nat) (hk : k < l.length) : rowK (sing l) k = [l.getD k 0] := by simp [sing, rowK, List.getD, hk]
theorem Own.rowN {w : World} {B : Nat} {v : Value} {l : List Int} (h : Own w B v l) : RowN w B 3 1 v (sing l) := by
  refine ⟨fun x hx => ?_, ?_⟩
  · obtain ⟨y, _, rfl⟩ := List.mem_map.1 hx
    rfl
  · rw [sing_length, sing_flat]; exact h
theorem RowN.own {w : World} {B : Nat} {v : Value} {l : List Int} (h : RowN w B 3 1 v (sing l)) : Own w B v l := by
  have := h.2
  rw [sing_length, sing_flat] at this
  exact this
def sing1 (p : Int → Bool) (l : List Int) : Bool := p (l.getD 0 0)
theorem sing_filter (p : Int → Bool) (l : List Int) : ((sing l).filter fun x => !sing1 p x) = sing (l.filter fun x => !p x) := by
  induction l with
  | nil => rfl
  | cons x l ih =>
    simp only [sing, List.map_cons, List.filter_cons] at ih ⊢
    have e : sing1 p [x] = p x := rfl
    rw [e]
    cases p x <;> simp [ih]
theorem elem_i6 : Tryz.prog.elem 24 = 3 := by kernel_rfl
theorem zero_i6 (w : World) : (zeroValue 3).run Tryz.prog w = .ok (.int .i64 0) w := by kernel_rfl

set_option maxRecDepth 10000 in
set_option maxHeartbeats 1000000 in
theorem indexF_int (fid : Nat) (hE : ∀ args w, (callFunc fid args).run Tryz.prog w = .ok (.enter fid args) w) (cap : Value) (p : Int → Bool) (D E : Nat) (v : Value) (l : List Int) (w : World) (h : Own w D v l) (hD : E ≤ w.heap.size) (hM : l.length ≤ 1000)
    (hf : ∀ W, Below E w W → ∀ x ∈ l, Calls Tryz.prog fid #[.int .i64 x, cap] W fun e w' => e = .returned (.bool (p x)) ∧ Below W.heap.size W w') :
    Calls Tryz.prog 34 #[v, .func (.func fid) #[] #[cap]] w fun e w' => e = .returned (.int .i64 (idxR (sing1 p) (sing l))) ∧ Below w.heap.size w w' := by
  obtain ⟨A, c, rfl⟩ := h.slice
  obtain ⟨n, hn⟩ : ∃ n, n = l.length := ⟨_, rfl⟩
  have HN := Lib.hid hn
  have HNS : Hid (n = (sing l).length) := by rw [Hid, sing_length]; exact hn
  have hr0 : Hid (Rd w w.heap.size A n l) := by have := h.rd.2; rw [← hn] at this; exact this
  rw [← hn] at hM ⊢
  have HF := Lib.hid hf
  clear h hn hf
  go_enter Tryz.func34, Tryz.ntmps34
  go_wp2
  go_loopw [8] (fun i wr => ∃ k : Nat, k ≤ n ∧ i = .int .i64 k ∧ Hid (∀ j, j < k → sing1 p (rowK (sing l) j) = false) ∧ Hid (Rd wr w.heap.size A n l) ∧ Below w.heap.size w wr) (fun i _ => n - (intOf i).toNat)
  case atStart => exact ⟨0, Nat.zero_le _, rfl, fun j hj => absurd hj (by omega), hr0, Below.refl _ _⟩
  case round =>
    obtain ⟨k, hk, rfl, hpre, hrd, hbl⟩ := hrel
    clear hr0
    by_cases hlt : k < n
    · have hkl : k < l.length := by rw [← HN.out]; exact hlt
      have hks : k < (sing l).length := by rw [sing_length]; exact hkl
      obtain ⟨b, o, rfl, hbB, hcs⟩ := hrd.out.at_ (by omega)
      have hc := hcs k hlt
      have HC := Lib.hid (HF.out wr (hbl.mono hD) _ (getD_mem l k hkl))
      have hsk : sing1 p (rowK (sing l) k) = p (l.getD k 0) := by rw [sing_get l k hkl]; rfl
      clear hcs
      cases hp : p (l.getD k 0) with
      | false =>
        have HP : Hid (∀ j, j < k + 1 → sing1 p (rowK (sing l) j) = false) := fun j hj => by
          rcases Nat.lt_succ_iff_lt_or_eq.1 hj with hj | rfl
          · exact hpre.out j hj
          · exact hsk.trans hp
        rw [hp] at HC
        clear hp hkl hsk hks
        generalize l.getD k 0 = x at *
        go_wp2_with (refine HC.out.mono ?_; rintro e w5 ⟨rfl, hb5⟩)
        go_roundw
        case rel => exact ⟨k + 1, by omega, by go_num, HP, Lib.hid (hrd.out.below (hb5.mono hbl.size)), hbl.trans (hb5.mono hbl.size)⟩
        case measure => simp [intOf]; omega
      | true =>
        have HI := Lib.hid (idxR_at hks hpre.out (hsk.trans hp)).1
        rw [hp] at HC
        clear hp hkl hsk hks
        generalize l.getD k 0 = x at *
        go_wp2_with (refine HC.out.mono ?_; rintro e w5 ⟨rfl, hb5⟩)
        go_ret
        exact ⟨by rw [HI.out]; rfl, hbl.trans (hb5.mono hbl.size)⟩
    · obtain rfl : k = n := by omega
      have HI := Lib.hid (idxR_none (p := sing1 p) (M := sing l) (by rw [← HNS.out]; exact hpre.out))
      go_wp2
      go_ret
      exact ⟨by rw [HI.out]; rfl, hbl⟩

theorem sing_set (l : List Int) (k : Nat) (x : Int) : (sing l).set k [x] = sing (l.set k x) := by simp [sing, List.map_set]
theorem of_sing : ∀ (X : List (List Int)), (∀ l ∈ X, l.length = 1) → ∃ l, X = sing l
  | [], _ => ⟨[], rfl⟩
  | r :: X, h => by
    obtain ⟨l, rfl⟩ := of_sing X (fun a ha => h a (by simp [ha]))
    have := h r (by simp)
    match r, this with
    | [x], _ => exact ⟨x :: l, rfl⟩

set_option maxRecDepth 10000 in
set_option maxHeartbeats 2000000 in
theorem deleteF_int (fid : Nat) (hE : ∀ args w, (callFunc fid args).run Tryz.prog w = .ok (.enter fid args) w) (cap : Value) (p : Int → Bool) (D : Nat) (v : Value) (l : List Int) (w : World) (h : Own w D v l) (hD : D ≤ w.heap.size) (hM : l.length ≤ 1000)
    (hf : ∀ W, Below D w W → ∀ x ∈ l, Calls Tryz.prog fid #[.int .i64 x, cap] W fun e w' => e = .returned (.bool (p x)) ∧ Below W.heap.size W w') :
    Calls Tryz.prog 15 #[v, .func (.func fid) #[] #[cap]] w fun e w' => ∃ v', e = .returned v' ∧ Own w' D v' (l.filter fun x => !p x) ∧ Below D w w' := by
  have HI := Lib.hid (indexF_int fid hE cap p D D v l w h hD hM hf)
  have HF := Lib.hid hf
  have HH := Lib.hid h
  have hsl : (sing l).length = l.length := sing_length l
  by_cases hx : ∃ k, k < l.length ∧ (∀ j, j < k → sing1 p (rowK (sing l) j) = false) ∧ sing1 p (rowK (sing l) k) = true
  · obtain ⟨k0, hk0, hpre, hpk⟩ := hx
    have hk0s : k0 < (sing l).length := by rw [hsl]; exact hk0
    rw [(idxR_at hk0s hpre hpk).1] at HI
    obtain ⟨hs1, hs2⟩ := rowAt_start (sing1 p) (sing l) hk0s hpre hpk
    obtain ⟨g, c, e0, hBg, hgs, hnc, hcm, _, _⟩ := h.rowN.elem hk0s
    have hcm' : c ≤ 9223372036854775807 := by unfold maxLen at hcm; omega
    subst e0
    obtain ⟨i0, hi, hz0, hz1, hz2⟩ := info_parts int_info
    obtain ⟨n, hn⟩ : ∃ n, n = l.length := ⟨_, rfl⟩
    have HN := Lib.hid hn
    have HS1 := Lib.hid (show (keptTo (sing1 p) (sing l) (k0 + 1)).length = k0 by rw [hs1, List.length_take]; omega)
    have HS2 : Hid (RowAt (sing1 p) (sing l) (sing l) (k0 + 1)) := Lib.hid hs2
    rw [hsl, ← hn] at HI HH hnc ⊢
    rw [← hn] at hM hk0 hsl
    clear hn hs1 hs2 hpre hpk h hf
    go_enter Tryz.func15, Tryz.ntmps15
    have hk1 : IntKind.i64.wrap ((k0 : Int) + 1) = (k0 : Int) + 1 := by rw [IntKind.wrap_i64]; omega
    go_wp2_with (go_at_call 34; refine HI.out.mono ?_; rintro e w1 ⟨rfl, hb1⟩)
    have HH1 : Hid (RowN w1 D 3 1 (.slice (some ⟨g, 0, none⟩) n c) (sing l)) := Lib.hid (HH.out.rowN.below hb1 (fun i hi => (HH.out.rowN.lt i hi).2))
    have HB1 := Lib.hid (hb1.mono hD)
    clear hb1 HI
    go_loopw [5, 6] (fun i j wr => ∃ q : Nat, ∃ X : List Int, k0 + 1 ≤ q ∧ q ≤ n ∧ j = .int .i64 q ∧ i = .int .i64 ((keptTo (sing1 p) (sing l) q).length : Nat) ∧ Hid (RowAt (sing1 p) (sing l) (sing X) q) ∧ Hid (RowN wr D 3 1 (.slice (some ⟨g, 0, none⟩) n c) (sing X)) ∧ Hid (Below D w wr)) (fun _ j _ => n - (intOf j).toNat)
    case atStart => exact ⟨k0 + 1, l, Nat.le_refl _, by omega, by go_num, by rw [HS1.out], HS2, HH1, HB1⟩
    case round =>
      obtain ⟨q, X, hq0, hq, rfl, rfl, hat, hrd, hbl⟩ := hrel
      clear HH1 HB1 HS2 HS1
      have hXn : X.length = n := by have := hat.out.1; rw [sing_length, sing_length] at this; rw [HN.out]; exact this
      have hDw : D ≤ wr.heap.size := Nat.le_trans hD hbl.out.size
      have hgw : g < wr.heap.size := (hrd.out.lt g rfl).2
      have hlq := keptTo_len (sing1 p) (sing l) q
      have HXN := Lib.hid hXn
      by_cases hlt : q < n
      · have hqM : q < (sing l).length := by rw [hsl]; exact hlt
        have hqX : q < X.length := by rw [hXn]; exact hlt
        have hrow := rowAt_get hat.out (j := q)
        rw [sing_get X q hqX, sing_get l q (by rw [← HN.out]; exact hlt)] at hrow
        injection hrow with hrow _
        have hxm := getD_mem l q (by rw [← HN.out]; exact hlt)
        have hsk : sing1 p (rowK (sing l) q) = p (l.getD q 0) := by rw [sing_get l q (by rw [← HN.out]; exact hlt)]; rfl
        have hrk : rowK (sing l) q = [l.getD q 0] := sing_get l q (by rw [← HN.out]; exact hlt)
        have HC := Lib.hid (fun W hW => HF.out W hW _ hxm)
        have HNO := Lib.hid (fun hp => rowAt_no hat.out hqM (hsk.trans hp))
        have HYES := Lib.hid (fun hp => rowAt_yes hat.out hqM (hsk.trans hp))
        have HL1 := Lib.hid (fun hp => (keptTo_no (p := sing1 p) hqM (hsk.trans hp)))
        have HL2 := Lib.hid (fun hp => (keptTo_yes (p := sing1 p) hqM (hsk.trans hp)))
        have hld : wr.cell? ⟨g, q, none⟩ = some (.int .i64 (l.getD q 0)) := by
          obtain ⟨g', c', e0, _, _, _, _, _, hcell⟩ := hrd.out.elem (k := q) (by rw [sing_length]; exact hqX)
          injection e0 with e1 _ _
          injection e1 with e1
          injection e1 with e1
          subst e1
          have := hcell 0 (.int .i64 (l.getD q 0)) (by rw [sing_get X q hqX, hrow]; simp [ints])
          simpa using this
        rw [hrk, sing_set] at HYES
        rw [hrk] at HL2
        clear hXn hqX hrow hat hxm hsk hrk
        generalize l.getD q 0 = x at *
        obtain ⟨iq, hiq⟩ : ∃ iq, iq = (keptTo (sing1 p) (sing l) q).length := ⟨_, rfl⟩
        rw [← hiq] at hlq HYES ⊢
        have HIQ := Lib.hid hiq
        clear hiq
        cases hp : p x with
        | true =>
          have HAT := Lib.hid (HNO.out hp)
          have HLN := Lib.hid (HL1.out hp)
          rw [hp] at HC
          clear HNO HYES HL1 HL2 hp
          go_wp2_with fail
          refine (HC.out wr hbl.out).mono ?_
          rintro e w7 ⟨rfl, hb7⟩
          go_wp2
          go_roundw
          case rel =>
            (repeat apply Exists.intro)
            refine ⟨⟨q + 1, X, by omega, by omega, ?_, ?_, HAT, Lib.hid (hrd.out.below hb7 (fun i hi => (hrd.out.lt i hi).2)), Lib.hid (hbl.out.trans (hb7.mono hDw))⟩, rfl⟩
            · go_num
            · rw [HLN.out, ← HIQ.out]
          case measure => simp [intOf]; omega
        | false =>
          have HAT := Lib.hid (HYES.out hp)
          have HLN := Lib.hid (HL2.out hp)
          rw [hp] at HC
          clear HNO HYES HL1 HL2 hp
          go_wp2_with fail
          refine (HC.out wr hbl.out).mono ?_
          rintro e w7 ⟨rfl, hb7⟩
          have HR7 := Lib.hid (hrd.out.below hb7 (fun i hi => (hrd.out.lt i hi).2))
          have hown := HR7.out.2
          rw [sing_length, HXN.out, sing_flat] at hown
          have hst := hown.stored iq (.int .i64 x)
          have hlen7 : (ints X).length = n := by simp [HXN.out]
          have hcell : w7.cell? ⟨g, iq, none⟩ = some (.int .i64 (X.getD iq 0)) := by
            rw [hown.cellAt iq (by omega), ints_get _ _ (by rw [HXN.out]; omega)]
          have hfr : w7.frozen? ⟨g, iq, none⟩ = false := hown.frozenAt _
          rw [ints_set] at hst
          have HB7 := Lib.hid (hbl.out.trans (hb7.mono hDw))
          have HS := Lib.hid hst
          have h7s := hb7.size
          clear hst hown hb7 hld
          generalize X.getD iq 0 = old at hcell
          go_wp2
          go_roundw
          case rel =>
            (repeat apply Exists.intro)
            refine ⟨⟨q + 1, X.set iq x, by omega, by omega, ?_, ?_, HAT, ?_, Lib.hid (HB7.out.grown HS.out.2 (by omega) (by simp; omega))⟩, rfl⟩
            · go_num
            · rw [HLN.out, List.length_append, ← HIQ.out]; go_num
            · refine Lib.hid ⟨fun r hr => ?_, ?_⟩
              · obtain ⟨y, _, rfl⟩ := List.mem_map.1 hr
                rfl
              · rw [sing_length, sing_flat, List.length_set, HXN.out]; exact HS.out.1
          case measure => simp [intOf]; omega
      · obtain rfl : q = n := by omega
        have HTK : Hid ((sing X).take (keptTo (sing1 p) (sing l) q).length = sing (l.filter fun x => !p x)) := by
          have h1 := hat.out.2.1
          rw [Hid, h1, ← sing_filter, ← keptTo_full, hsl]
        obtain ⟨iq, hiq⟩ : ∃ iq, iq = (keptTo (sing1 p) (sing l) q).length := ⟨_, rfl⟩
        rw [← hiq] at hlq HTK ⊢
        clear hiq hat
        have hXs : (sing X).length = q := by rw [sing_length]; exact hXn
        have HXS := Lib.hid hXs
        clear hXn hXs
        have hsA := fun W => tailN 24 3 1 elem_i6 Tryz.underlying24 i0 hi cells_int W g q c iq hlq
        obtain ⟨ad, hade⟩ : ∃ ad : Addr, (if c = iq then ⟨g, 0, none⟩ else ⟨g, iq * 1, none⟩) = ad := ⟨_, rfl⟩
        rw [hade] at hsA
        have HADE := Lib.hid hade
        clear hade
        have hsB := fun W => headN 24 3 elem_i6 Tryz.underlying24 i0 hi W g q c iq (by omega)
        go_wp2_with (refine wpList_clearN rfl _ 24 3 1 rfl Tryz.underlying24 (.int .i64 0) zero_i6 rfl (by decide) (by simp [Value.cells, Value.oneCell']) g q c iq D (sing X) hrd HXS.out hlq ad HADE rfl ?_; intro w8 HR8 hg8)
        go_ret
        rw [HTK.out] at HR8
        exact ⟨.slice (some ⟨g, 0, none⟩) iq c, rfl, HR8.out.own, hbl.out.grown hg8 hDw (by simp; omega)⟩
  · have hall : ∀ j, j < (sing l).length → sing1 p (rowK (sing l) j) = false := fun j hj => by
      induction j using Nat.strongRecOn with
      | _ j ih =>
        cases hp : sing1 p (rowK (sing l) j) with
        | false => rfl
        | true => exact absurd ⟨j, by rw [← hsl]; exact hj, fun i hi => ih i hi (by omega), hp⟩ hx
    have hkeep : l.filter (fun x => !p x) = l := by
      have := keep_all hall
      rw [sing_filter] at this
      have := congrArg List.flatten this
      rwa [sing_flat, sing_flat] at this
    rw [idxR_none hall] at HI
    rw [hkeep]
    obtain ⟨A, c, rfl⟩ := h.slice
    obtain ⟨z, hz⟩ : ∃ z, z = l.length := ⟨_, rfl⟩
    rw [← hz] at HI HH ⊢
    clear hx hall HF hf h hsl hkeep hz
    go_enter Tryz.func15, Tryz.ntmps15
    go_wp2_with (go_at_call 34; refine HI.out.mono ?_; rintro e w1 ⟨rfl, hb1⟩)
    go_ret
    exact ⟨_, rfl, (HH.out.rowN.below hb1 (fun i hi => (HH.out.rowN.lt i hi).2)).own, hb1.mono hD⟩
end Go.Proofs.YthpomflpnmddoaaGreatDoor
