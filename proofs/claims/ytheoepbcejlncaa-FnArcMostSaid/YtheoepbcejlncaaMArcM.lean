/- The rings of families: how many, the first one, the most arcs; the program and the model. -/
import Derived.Test.YtheoepbcejlncaaArF
import Derived.Test.YtheoepbcejlncaaDelF
import Derived.Test.YtheoepbcejlncaaFirst
import Derived.Deep.RegionHeld3
import Derived.Test.YtheoepbcejlncaaGrow
import Derived.Test.YtheoepbcejlncaaRw
namespace Go.Proofs.Ytheoepbcejlncaa
open Go.ChangeShapes Go.WideShapes Go.ChangeAt Go.RowKit

def isA7 (l : List Int) (s : Int) : Bool := decide (runN (hasN s.toNat) l = 1)
/-- How many of some sets are arcs. -/
def cntA (l L : List Int) : Nat := (L.filter (isA7 l)).length
def cntTo (l L : List Int) (k : Nat) : Nat := ((L.take k).filter (isA7 l)).length
theorem cntTo_step (l L : List Int) (k : Nat) (hk : k < L.length) : cntTo l L (k + 1) = cntTo l L k + if isA7 l (L.getD k 0) then 1 else 0 := by
  unfold cntTo
  rw [List.take_succ_eq_append_getElem hk, List.filter_append, List.length_append]
  have e : L.getD k 0 = L[k] := by simp [List.getD, hk]
  rw [e, List.filter_cons, List.filter_nil]
  congr 1
  cases isA7 l L[k] <;> rfl
theorem cntTo_len (l L : List Int) (k : Nat) : cntTo l L k ≤ k := by
  have := List.length_filter_le (isA7 l) (L.take k)
  simp at this
  unfold cntTo
  omega
theorem cntTo_full (l L : List Int) : cntTo l L L.length = cntA l L := by simp [cntTo, cntA]
theorem cnt_all (l L : List Int) : decide (cntA l L < L.length) = !L.all (isA7 l) := by
  have h1 := List.length_filter_le (isA7 l) L
  have h2 : (L.filter (isA7 l)).length = L.length ↔ ∀ a ∈ L, isA7 l a = true := List.length_filter_eq_length_iff
  unfold cntA
  cases h : L.all (isA7 l) with
  | true =>
    rw [List.all_eq_true] at h
    have := h2.2 h
    exact decide_eq_false (by omega)
  | false =>
    have : ¬ ∀ a ∈ L, isA7 l a = true := fun hh => by rw [List.all_eq_true.2 hh] at h; cases h
    have : (L.filter (isA7 l)).length ≠ L.length := fun e => this (h2.1 e)
    exact decide_eq_true (by omega)

theorem FamV.below {w w' : World} {B D : Nat} {v : Value} {L : List Int} (h : FamV w B v L) (hb : Below D w w') (hD : w.heap.size ≤ D) : FamV w' B v L := by
  obtain ⟨xs, h1, h2⟩ := h
  refine ⟨xs, ⟨h1.1, ?_⟩, fun k hk => ?_⟩
  · rcases h1.2 with e | ⟨g, cap, cur, e, hg, hh, rest⟩
    · exact .inl e
    · exact .inr ⟨g, cap, cur, e, hg, (hb.block g (Nat.lt_of_lt_of_le (Array.getElem?_eq_some_iff.1 hh).1 hD)).trans hh, rest⟩
  · obtain ⟨b, s, h3, h4, h5, h6⟩ := h2 k hk
    exact ⟨b, s, h3, h4, h5, h6.below hb (Nat.lt_of_lt_of_le h6.1 hD)⟩
theorem FamV.at_ {w : World} {B : Nat} {v : Value} {L : List Int} (h : FamV w B v L) {k : Nat} (hk : k < L.length) : ∃ g c b s : Nat, v = .slice (some ⟨g, 0, none⟩) L.length c ∧ w.cell? ⟨g, k, none⟩ = some (askV b) ∧ L.getD k 0 = (s : Int) ∧ SetC w b s := by
  obtain ⟨xs, h1, h2⟩ := h
  obtain ⟨b, s, h3, h4, h5, h6⟩ := h2 k hk
  rcases h1.2 with ⟨_, h0⟩ | ⟨g, cap, cur, rfl, _⟩
  · omega
  · exact ⟨g, cap, b, s, rfl, by rw [h1.cellAt k (by omega)]; exact h3, h5, h6⟩

set_option maxRecDepth 10000 in
set_option maxHeartbeats 1000000 in
theorem places_any (l L : List Int) (D B : Nat) (g : Nat → Nat) (v : Value) (w : World) (h : Lnk w D g l) (hv : FamV w B v L) (h2 : 2 ≤ l.length) (h7 : l.length ≤ 7) (hp : ∀ x ∈ l, 0 ≤ x ∧ x < 7) (hs : ∀ s ∈ L, s < 128) (hL : L.length ≤ 10) :
    Calls Try.prog 67 #[.pointer (some ⟨g 0, 0, none⟩), v] w fun e w' => e = .returned (.int .i64 (cntA l L : Int)) ∧ Below w.heap.size w w' := by
  have HLK := Lib.hid (fun (V : World) (hV : Below w.heap.size w V) => h.below hV (Nat.le_refl _))
  have HFV := Lib.hid (fun (V : World) (hV : Below w.heap.size w V) => hv.below hV (Nat.le_refl _))
  have HIA := Lib.hid (fun (s b : Nat) (V : World) (hV : Below w.heap.size w V) (hs : s < 128) (hc : SetC V b s) => isArc_any l s b D g V (h.below hV (Nat.le_refl _)) h2 h7 hp hs hc)
  have HSB := Lib.hid (fun k (hk : k < L.length) => hs _ (getD_mem L k hk))
  have HST := Lib.hid (fun k => cntTo_step l L k)
  have HCB := Lib.hid (fun k => cntTo_len l L k)
  have HFU := Lib.hid (cntTo_full l L)
  obtain ⟨A, c, rfl⟩ := hv.slice
  obtain ⟨R, hR⟩ : ∃ R : Nat → Nat, R = cntTo l L := ⟨_, rfl⟩
  have HIS : Hid (∀ s : Nat, isA7 l (s : Int) = decide (runN (hasN s) l = 1)) := fun s => by rw [isA7, Int.toNat_natCast]
  have HR0 : Hid (R 0 = 0) := by rw [hR]; rfl
  rw [← hR] at HST HCB HFU
  rw [← HFU.out]
  clear hR h hv hs
  obtain ⟨n, hn⟩ : ∃ n, n = L.length := ⟨_, rfl⟩
  have HN := Lib.hid hn
  rw [← hn] at HFV HSB HST HFU hL ⊢
  clear hn
  go_enter Try.func67, Try.ntmps67
  go_wp2
  go_loopw [5, 10] (fun v i wr => ∃ k : Nat, k ≤ n ∧ v = .int .i64 (R k : Int) ∧ i = .int .i64 k ∧ Hid (Below w.heap.size w wr)) (fun _ i _ => n - (intOf i).toNat)
  case atStart => exact ⟨0, Nat.zero_le _, by rw [HR0.out]; rfl, rfl, Below.refl _ _⟩
  case round =>
    obtain ⟨k, hk, rfl, rfl, hbl⟩ := hrel
    by_cases hlt : k < n
    · have hfv := HFV.out wr hbl.out
      rw [HN.out] at hfv
      obtain ⟨g', c', b, s, e, hc, hse, hsc⟩ := hfv.at_ (k := k) (by rw [← HN.out]; exact hlt)
      rw [← HN.out] at e
      injection e with e1 _ e3
      subst e1
      subst e3
      have hs1 := HSB.out k hlt
      have hst := HST.out k hlt
      rw [hse] at hs1 hst
      rw [HIS.out] at hst
      have HC := Lib.hid (HIA.out s b wr hbl.out (by omega) hsc)
      have hr1 := HCB.out k
      have hr2 := HCB.out (k + 1)
      obtain ⟨r1, hr⟩ : ∃ r1, r1 = R (k + 1) := ⟨_, rfl⟩
      have HR1 := Lib.hid hr
      rw [← hr] at hst hr2
      clear hr hfv hse hsc hs1
      generalize R k = r at *
      cases hx : decide (runN (hasN s) l = 1) with
      | true =>
        rw [hx] at hst HC
        rw [if_pos rfl] at hst
        have HS := Lib.hid hst
        clear hst hx
        go_wp2_with fail
        refine HC.out.mono ?_
        rintro e w2 ⟨rfl, hb2⟩
        have HB2 := Lib.hid (hbl.out.trans (hb2.mono hbl.out.size))
        clear hb2
        go_wp2
        go_roundw
        case rel => exact ⟨k + 1, by omega, by rw [← HR1.out, HS.out]; try go_num, by go_num, HB2⟩
        case measure => simp [intOf]; omega
      | false =>
        rw [hx] at hst HC
        rw [if_neg (by simp), Nat.add_zero] at hst
        have HS := Lib.hid hst
        clear hst hx
        go_wp2_with fail
        refine HC.out.mono ?_
        rintro e w2 ⟨rfl, hb2⟩
        have HB2 := Lib.hid (hbl.out.trans (hb2.mono hbl.out.size))
        clear hb2
        go_wp2
        go_roundw
        case rel => exact ⟨k + 1, by omega, by rw [← HR1.out, HS.out]; try go_num, by go_num, HB2⟩
        case measure => simp [intOf]; omega
    · obtain rfl : k = n := by omega
      go_wp2
      go_ret
      exact ⟨rfl, hbl.out⟩

/-- The rings of n points of which all of some sets are arcs. -/
def arcL (n : Nat) (L : List Int) : List (List Int) := (ringsL n).filter fun l => L.all (isA7 l)
theorem arcL_is (n : Nat) (L : List Int) (h3 : 3 ≤ n) (h6 : n ≤ 6) : ∀ l ∈ arcL n L, IsR n l := fun l hl => ringsL_is n h3 h6 l (List.mem_filter.1 hl).1
theorem arcL_len (n : Nat) (L : List Int) (h3 : 3 ≤ n) (h6 : n ≤ 6) : (arcL n L).length ≤ 720 := by
  have h1 := List.length_filter_le (fun l => L.all (isA7 l)) (ringsL n)
  rw [ringsL_length] at h1
  have := (facM_eq n h3 h6).2.1
  unfold arcL; omega
theorem isR_bd {n : Nat} {l : List Int} (h : IsR n l) (h3 : 3 ≤ n) (h7 : n ≤ 7) : ∀ x ∈ l, 0 ≤ x ∧ x < 7 := fun x hx => by
  have ht := h.tell h3 h7
  have := ht.2.2.1 x hx
  have := h.1
  omega

attribute [local go_sem ↓] ldR_fold in
set_option maxRecDepth 10000 in
set_option maxHeartbeats 2000000 in
theorem arc1_any (l L : List Int) (bx B : Nat) (v : Value) (w : World) (hbx : w.cell? ⟨bx, 0, none⟩ = some v) (hv : FamV w B v L) (h3 : 3 ≤ l.length) (h7 : l.length ≤ 7) (hp : ∀ x ∈ l, 0 ≤ x ∧ x < 7) (hs : ∀ s ∈ L, s < 128) (hL : L.length ≤ 10) :
    Calls Try.prog 91 #[agp l, .pointer (some ⟨bx, 0, none⟩)] w fun e w' => e = .returned (.bool (decide (cntA l L < L.length))) ∧ Below w.heap.size w w' := by
  have hbw : bx < w.heap.size := World.block_lt_of_cell? w _ hbx
  have HK := Lib.hid (fun W => linked_any l W (by omega) h7 fun x hx => (hp x hx).1)
  have HPL := Lib.hid (fun (g : Nat → Nat) (D : Nat) (W : World) (h1 : Lnk W D g l) (h2 : FamV W B v L) => places_any l L D B g v W h1 h2 (by omega) h7 hp hs hL)
  have HFV := Lib.hid (fun (W : World) (hW : Below w.heap.size w W) => hv.below hW (Nat.le_refl _))
  have HBX := Lib.hid (fun (W : World) (hW : Below w.heap.size w W) => (hW.cell (p := ⟨bx, 0, none⟩) hbw).trans hbx)
  obtain ⟨A, c, rfl⟩ := hv.slice
  have H7 := padR_length l h7
  unfold agp at HK ⊢
  obtain ⟨n, hn⟩ : ∃ n, n = L.length := ⟨_, rfl⟩
  rw [← hn] at HPL HBX HFV ⊢
  generalize cntA l L = q at *
  clear h3 h7 hp hs hL hv hbx hn
  generalize padR l = P at *
  obtain ⟨p0, p1, p2, p3, p4, p5, p6, rfl⟩ := seven H7
  simp only [ints, List.map_cons, List.map_nil] at HK ⊢
  have A0 : Arr (w.alloc (.cells #[.int .i64 p0, .int .i64 p1, .int .i64 p2, .int .i64 p3, .int .i64 p4, .int .i64 p5, .int .i64 p6] 54)) w.heap.size [p0, p1, p2, p3, p4, p5, p6] := heap_alloc_new w _
  have HB0 := Lib.hid ((Below.refl w.heap.size w).alloc (Nat.le_refl _) (.cells #[.int .i64 p0, .int .i64 p1, .int .i64 p2, .int .i64 p3, .int .i64 p4, .int .i64 p5, .int .i64 p6] 54)).drew
  have l0 := ldR_run A0.drew rfl
  simp only [ints, List.map_cons, List.map_nil] at l0
  have c0 := HBX.out _ HB0.out
  have hs0 : (w.alloc (.cells #[.int .i64 p0, .int .i64 p1, .int .i64 p2, .int .i64 p3, .int .i64 p4, .int .i64 p5, .int .i64 p6] 54)).drew.heap.size = w.heap.size + 1 := by simp
  have HA0 := Lib.hid A0.drew
  clear A0 H7
  go_enter Try.func91, Try.ntmps91
  go_wp2_with fail
  go_region_held3 (fun V => (ldR ⟨w.heap.size, 0, none⟩).run Try.prog V = .ok (.agg #[.int .i64 p0, .int .i64 p1, .int .i64 p2, .int .i64 p3, .int .i64 p4, .int .i64 p5, .int .i64 p6]) V ∧ V.cell? ⟨bx, 0, none⟩ = some (.slice A n c))
    (first
      | exact ⟨lb, cb⟩
      | exact ⟨la, ca⟩
      | exact ⟨l0, c0⟩)
    (first
      | (go_at_call 67; refine HPA.out.mono ?_; rintro e wb ⟨rfl, hbb⟩
         have HBB := Lib.hid (HBA.out.trans (hbb.mono HBA.out.size))
         have cb := HBX.out _ HBB.out
         have lb := ldR_run (HAA.out.below hbb HAA.out.lt) rfl
         simp only [ints, List.map_cons, List.map_nil] at lb
         clear hbb)
      | (go_at_call 66; refine (HK.out _).mono ?_; rintro e wa ⟨ga, rfl, hla, hba⟩
         have HBA := Lib.hid (HB0.out.trans (hba.mono (by rw [hs0]; omega)))
         have HPA := Lib.hid (HPL.out ga _ wa hla (HFV.out wa HBA.out))
         have ca := HBX.out _ HBA.out
         have HAA := Lib.hid (HA0.out.below hba HA0.out.lt)
         have la := ldR_run HAA.out rfl
         simp only [ints, List.map_cons, List.map_nil] at la
         clear hla hba))
  all_goals
    go_wp2
    go_ret
    exact ⟨by first | rfl | simp, HBB.out⟩

theorem arcL_not (n : Nat) (L : List Int) : ((ringsL n).filter fun l => !(decide (cntA l L < L.length))) = arcL n L := by
  unfold arcL
  congr 1
  funext l
  rw [cnt_all, Bool.not_not]

set_option maxRecDepth 10000 in
set_option maxHeartbeats 1000000 in
theorem arcRings_any (n : Nat) (L : List Int) (B0 : Nat) (v : Value) (w : World) (hv : FamV w B0 v L) (h3 : 3 ≤ n) (h6 : n ≤ 6) (hs : ∀ s ∈ L, s < 128) (hL : L.length ≤ 10) :
    Calls Try.prog 59 #[.int .i64 (n : Int), v] w fun e w' => ∃ v', e = .returned v' ∧ RowN w' w.heap.size 54 7 v' (padM (arcL n L)) ∧ Below w.heap.size w w' := by
  obtain ⟨A, c, rfl⟩ := hv.slice
  obtain ⟨m, hm⟩ : ∃ m, m = L.length := ⟨_, rfl⟩
  obtain ⟨W, hW⟩ : ∃ W, W = w.alloc (.cells #[.slice A m c] 64) := ⟨_, rfl⟩
  have kb : Below w.heap.size w W := by rw [hW]; exact (Below.refl _ _).alloc (Nat.le_refl _) _
  have k2 : W.heap.size = w.heap.size + 1 := by rw [hW]; simp
  have k3 : W.cell? ⟨w.heap.size, 0, none⟩ = some (.slice A m c) := by rw [hW]; simp
  rw [← hm] at hv ⊢
  have k4 := hv.below kb (Nat.le_refl _)
  have HF : Hid (∀ V, Below W.heap.size W V → ∀ P ∈ padM (ringsL n), Calls Try.prog 91 #[.agg (ints P).toArray, .pointer (some ⟨w.heap.size, 0, none⟩)] V fun e w' => e = .returned (.bool (decide (cntA (unpad P) L < L.length))) ∧ Below V.heap.size V w') := fun V hV P hP => by
    simp only [padM, List.mem_map] at hP
    obtain ⟨l, hl, rfl⟩ := hP
    have hI := ringsL_is n h3 h6 l hl
    rw [unpad_pad l hI.2.1]
    exact arc1_any l L w.heap.size B0 _ V ((hV.cell (p := ⟨w.heap.size, 0, none⟩) (by simp; omega)).trans k3) (k4.below hV (Nat.le_refl _)) (by rw [hI.1]; exact h3) (by rw [hI.1]; omega) (isR_bd hI h3 (by omega)) hs hL
  have hpl : (padM (ringsL n)).length ≤ 1000 := by have := (facM_eq n h3 h6).2.1; simp [padM, ringsL_length]; omega
  have HPL := Lib.hid hpl
  have HR : Hid ((padM (ringsL n)).filter (fun P => !(decide (cntA (unpad P) L < L.length))) = padM (arcL n L)) := by
    rw [Hid, filter_pad (ringsL n) (fun l => !(decide (cntA l L < L.length))) (fun l hl => (ringsL_is n h3 h6 l hl).2.1), arcL_not]
  clear hv hs k3 k4 hpl hm hL
  have HB := Lib.hid kb
  have HSZ := Lib.hid k2
  have hBW : w.heap.size ≤ W.heap.size := by omega
  clear kb k2
  go_enter Try.func59, Try.ntmps59
  go_wp2_with fail
  rw [← hW]
  clear hW
  generalize hBB : w.heap.size = B at *
  have HBB := Lib.hid hBB
  clear hBB
  refine (allRings_any n W h3 h6).mono ?_
  rintro e w1 ⟨v1, rfl, hr1, hb1⟩
  have HR1 := Lib.hid hr1
  have HB1 := Lib.hid hb1
  have hs1 := hb1.size
  clear hr1 hb1
  go_wp2_with fail
  refine (deleteF_ring 91 (enters_fn Try.func91 (by decide) rfl) (.pointer (some ⟨B, 0, none⟩)) (fun P => decide (cntA (unpad P) L < L.length)) W.heap.size v1 _ w1 HR1.out hs1 HPL.out (fun V hV => HF.out V (HB1.out.trans hV))).mono ?_
  rintro e w2 ⟨v2, rfl, hr2, hb2⟩
  rw [HR.out] at hr2
  go_wp2
  go_ret
  exact ⟨_, rfl, by rw [HBB.out]; exact hr2.less hBW, by rw [HBB.out]; exact (HB.out.trans (HB1.out.mono hBW)).trans (hb2.mono hBW)⟩

theorem fam_nat {q : Int} {L : List Int} (ht : Fam q L) : ∃ k : Nat, q = k ∧ 3 ≤ k ∧ k ≤ 6 ∧ L.length ≤ 10 ∧ ∀ s ∈ L, 0 ≤ s ∧ s < 128 := by
  refine ⟨q.toNat, by have := ht.1; omega, by have := ht.1; omega, by have := ht.1; omega, ht.2.1, fun s hs => ?_⟩
  have h1 := ht.2.2 s hs
  simp only [okS, Bool.and_eq_true, decide_eq_true_eq] at h1
  have h2 := pow7 q.toNat (by have := ht.1; omega)
  have h3 := (Nat.pow_le_pow_right (by omega) (by have := ht.1; omega : q.toNat ≤ 7) : 2 ^ q.toNat ≤ 2 ^ 7)
  omega
def arR (q : Int) (L : List Int) : Int := if Fam q L then ((arcL q.toNat L).length : Nat) else 0
def afR (q : Int) (L : List Int) : List Int := if Fam q L then rowK (arcL q.toNat L) 0 else []
def afB (q : Int) (L : List Int) : Bool := if Fam q L then decide (0 < (arcL q.toNat L).length) else false
theorem afR_length (q : Int) (L : List Int) : (afR q L).length ≤ 7 := by
  unfold afR
  split
  · rename_i ht
    have h36 := ht.1
    rcases Nat.eq_zero_or_pos (arcL q.toNat L).length with h0 | h0
    · rw [List.eq_nil_of_length_eq_zero h0]; simp [rowK]
    · have := (arcL_is q.toNat L (by omega) (by omega) _ (rowK_mem h0)).1
      omega
  · simp

set_option maxHeartbeats 1000000 in
theorem arI_any (A : Option Addr) (m c H : Nat) (q : Int) (L : List Int) (w : World) (h : Rd w H A m L) (hH : H ≤ w.heap.size) (hm : m ≤ 1048576) (_ : m ≤ c) (_ : c ≤ 9223372036854775807) :
    Calls Try.prog 25 #[.int .i64 q, .slice A m c] w fun e w' => e = .returned (.tuple #[.int .i64 (arR q L), .bool (famB q L)]) ∧ Below w.heap.size w w' := by
  have HC := Lib.hid (readFam_any A m c H L q w h hH hm)
  by_cases ht : Fam q L
  · obtain ⟨k, rfl, h3, h6, h10, h128⟩ := fam_nat ht
    have HR : Hid (arR (k : Int) L = ((arcL k L).length : Nat)) := by rw [Hid, arR, if_pos ht, Int.toNat_natCast]
    have HG := Lib.hid (fun (B0 : Nat) (v : Value) (W : World) (hv : FamV W B0 v L) => arcRings_any k L B0 v W hv h3 h6 (fun s hs => (h128 s hs).2) h10)
    have hlen : Hid ((padM (arcL k L)).length = (arcL k L).length) := by simp [Hid, padM]
    rw [fam_yes ht] at HC ⊢
    rw [HR.out]
    clear h ht h3 h6 h10 h128
    go_enter Try.func25, Try.ntmps25
    go_wp2_with fail
    refine HC.out.mono ?_
    rintro e w1 ⟨v1, rfl, hf, _, hb1⟩
    have hf1 := hf (by simp)
    obtain ⟨A1, c1, rfl⟩ := hf1.slice
    have HG1 := Lib.hid (HG.out _ _ w1 hf1)
    clear hf hf1
    go_wp2_with fail
    refine HG1.out.mono ?_
    rintro e w2 ⟨v2, rfl, hr2, hb2⟩
    obtain ⟨A2, c2, rfl⟩ := hr2.slice
    rw [hlen.out]
    clear hr2
    go_wp2
    go_ret2
    exact ⟨rfl, hb1.trans (hb2.mono hb1.size)⟩
  · have HR : Hid (arR q L = 0) := by rw [Hid, arR, if_neg ht]
    rw [fam_no ht] at HC ⊢
    rw [HR.out]
    clear h ht
    go_enter Try.func25, Try.ntmps25
    go_wp2_with fail
    refine HC.out.mono ?_
    rintro e w1 ⟨v1, rfl, _, hn, hb1⟩
    obtain rfl := hn (by simp)
    go_wp2
    go_ret2
    exact ⟨rfl, hb1⟩

set_option maxHeartbeats 1000000 in
theorem afI_any (A : Option Addr) (m c H : Nat) (q : Int) (L : List Int) (w : World) (h : Rd w H A m L) (hH : H ≤ w.heap.size) (hm : m ≤ 1048576) (_ : m ≤ c) (_ : c ≤ 9223372036854775807) :
    Calls Try.prog 27 #[.int .i64 q, .slice A m c] w fun e w' => ∃ v, e = .returned (.tuple #[v, .bool (afB q L)]) ∧ OwnG w' w.heap.size v (afR q L) ∧ Below w.heap.size w w' := by
  have HC := Lib.hid (readFam_any A m c H L q w h hH hm)
  by_cases ht : Fam q L
  · obtain ⟨k, rfl, h3, h6, h10, h128⟩ := fam_nat ht
    have HR : Hid (afR (k : Int) L = rowK (arcL k L) 0 ∧ afB (k : Int) L = decide (0 < (arcL k L).length)) := ⟨by rw [afR, if_pos ht, Int.toNat_natCast], by rw [afB, if_pos ht, Int.toNat_natCast]⟩
    have HG := Lib.hid (fun (B0 : Nat) (v : Value) (W : World) (hv : FamV W B0 v L) => arcRings_any k L B0 v W hv h3 h6 (fun s hs => (h128 s hs).2) h10)
    have HF := Lib.hid (fun (v : Value) (C : Nat) (W : World) (hv : RowN W C 54 7 v (padM (arcL k L))) => firstList_any v C (arcL k L) W hv (by have := arcL_len k L h3 h6; omega) (fun l hl => by have := arcL_is k L h3 h6 l hl; exact ⟨by have := this.1; omega, by have := this.1; omega, this.2.1⟩))
    rw [fam_yes ht] at HC
    rw [HR.out.1, HR.out.2]
    clear h ht h3 h6 h10 h128
    go_enter Try.func27, Try.ntmps27
    go_wp2_with fail
    refine HC.out.mono ?_
    rintro e w1 ⟨v1, rfl, hf, _, hb1⟩
    have hf1 := hf (by simp)
    obtain ⟨A1, c1, rfl⟩ := hf1.slice
    have HG1 := Lib.hid (HG.out _ _ w1 hf1)
    clear hf hf1
    go_wp2_with fail
    refine HG1.out.mono ?_
    rintro e w2 ⟨v2, rfl, hr2, hb2⟩
    have HF2 := Lib.hid (HF.out v2 _ w2 hr2)
    have HB2 := Lib.hid (hb1.trans (hb2.mono hb1.size))
    obtain ⟨A2, c2, rfl⟩ := hr2.slice
    clear hr2
    go_wp2_with fail
    refine HF2.out.mono ?_
    rintro e w3 ⟨v3, rfl, ho3, hb3⟩
    have HB3 := Lib.hid (HB2.out.trans (hb3.mono HB2.out.size))
    have HO3 := Lib.hid (ownG_dn ho3 HB2.out.size)
    obtain ⟨A3, c3, ev⟩ := ho3.slice
    subst ev
    clear ho3 hb3
    go_wp2
    go_ret2
    exact ⟨_, rfl, HO3.out, HB3.out⟩
  · have HR : Hid (afR q L = [] ∧ afB q L = false) := ⟨by rw [afR, if_neg ht], by rw [afB, if_neg ht]⟩
    rw [fam_no ht] at HC
    rw [HR.out.1, HR.out.2]
    clear h ht
    go_enter Try.func27, Try.ntmps27
    go_wp2_with fail
    refine HC.out.mono ?_
    rintro e w1 ⟨v1, rfl, _, hn, hb1⟩
    obtain rfl := hn (by simp)
    go_wp2
    go_ret2
    exact ⟨.slice none 0 0, rfl, .inl ⟨rfl, rfl⟩, hb1⟩
end Go.Proofs.Ytheoepbcejlncaa

namespace Go.Proofs.Ytheoepbcejlncaa
open Go.ChangeShapes Go.WideShapes Go.ChangeAt Go.RowKit

def allT (l L : List Int) (k : Nat) : Bool := (L.take k).all (isA7 l)
theorem allT_step (l L : List Int) (k : Nat) (hk : k < L.length) : allT l L (k + 1) = (allT l L k && isA7 l (L.getD k 0)) := by
  unfold allT
  rw [List.take_succ_eq_append_getElem hk, List.all_append]
  simp [List.getD, hk]
theorem allT_full (l L : List Int) : allT l L L.length = L.all (isA7 l) := by simp [allT]
def arcTo (n : Nat) (L : List Int) (k : Nat) : List (List Int) := ((List.range k).map fun j : Nat => byL n (j : Int)).filter fun l => L.all (isA7 l)
theorem arcTo_full (n : Nat) (L : List Int) : arcTo n L (facM n) = arcL n L := rfl
theorem arcTo_len (n : Nat) (L : List Int) (k : Nat) : (arcTo n L k).length ≤ k := by
  have h1 := List.length_filter_le (fun l => L.all (isA7 l)) ((List.range k).map fun j : Nat => byL n (j : Int))
  simp only [List.length_map, List.length_range] at h1
  exact h1
theorem arcTo_yes (n : Nat) (L : List Int) (k : Nat) (h : L.all (isA7 (byL n k)) = true) : arcTo n L k ++ [byL n k] = arcTo n L (k + 1) := by
  unfold arcTo
  rw [List.range_succ, List.map_append, List.filter_append]
  congr 1
  simp only [List.map_cons, List.map_nil, List.filter_cons, List.filter_nil]
  rw [if_pos h]
theorem arcTo_no (n : Nat) (L : List Int) (k : Nat) (h : L.all (isA7 (byL n k)) = false) : arcTo n L k = arcTo n L (k + 1) := by
  unfold arcTo
  rw [List.range_succ, List.map_append, List.filter_append]
  simp only [List.map_cons, List.map_nil, List.filter_cons, List.filter_nil]
  rw [if_neg (by rw [h]; simp)]
  simp
theorem GrowS.row7 {w : World} {B : Nat} {v : Value} {L : List (List Int)} (h : GrowS w B v L) {k : Nat} (hk : k < L.length) : ∃ g c A d, v = .slice (some ⟨g, 0, none⟩) L.length c ∧ w.cell? ⟨g, k, none⟩ = some (.slice A (rowK L k).length d) ∧ RowV w B (.slice A (rowK L k).length d) (rowK L k) := by
  obtain ⟨xs, h1, h2⟩ := h
  obtain ⟨vk, h3, h4⟩ := h2 k hk
  obtain ⟨A, d, rfl, _⟩ := h4.2
  rcases h1.2 with ⟨_, h0⟩ | ⟨g, cap, cur, rfl, hB, hg, hc, hm, hs, ht⟩
  · omega
  · refine ⟨g, cap, A, d, rfl, ?_, h4⟩
    rw [cell_of_row w g _ cur _ _ hg]
    rw [← ht, List.getElem?_take, if_pos (by omega)] at h3
    simpa using h3

set_option maxRecDepth 10000 in
set_option maxHeartbeats 2000000 in
theorem l7Rings_any (A' : Option Addr) (m d H' : Nat) (n : Nat) (L : List Int) (w : World) (h' : Rd w H' A' m L) (hH : H' ≤ w.heap.size) (h3 : 3 ≤ n) (h6 : n ≤ 6) (hm : m ≤ 10) (hs : ∀ s ∈ L, 0 ≤ s ∧ s < 128) :
    Calls Try.prog 60 #[.int .i64 (n : Int), .slice A' m d] w fun e w' => ∃ v, e = .returned v ∧ GrowS w' w.heap.size v (arcL n L) ∧ Below w.heap.size w w' := by
  obtain ⟨i0, hi, hz0, hz1, hz2⟩ := info_parts row_info
  obtain ⟨hf1, hf2, hf3, hf4⟩ := facM_eq n h3 h6
  have HL := Lib.hid h'.len
  have HSB := Lib.hid (fun k (hk : k < m) => hs _ (getD_mem L k (by rw [HL.out]; exact hk)))
  have hg0 : Hid (GrowS (w.alloc (.cells #[] 23)) w.heap.size (.slice (some ⟨w.heap.size, 0, none⟩) 0 0) []) := GrowS.empty w (Nat.le_refl _)
  have hb0 : Below w.heap.size w (w.alloc (.cells #[] 23)) := (Below.refl _ _).alloc (Nat.le_refl _) _
  have hr0 := Lib.hid (h'.below (hb0.mono hH))
  have HFM := Lib.hid hf1
  obtain ⟨N, hN⟩ : ∃ N, N = facM n := ⟨_, rfl⟩
  rw [← hN] at HFM hf2
  have HN := Lib.hid hN
  have hfk : ∀ k : Nat, k < N → (k : Int) < facN (n - 1) := fun k hk => by rw [← HFM.out]; omega
  have HFACT := Lib.hid (fun W => facS_nat (n - 1) ((n : Int) - 1) W (by omega) (by omega))
  rw [← HFM.out] at HFACT
  have HBY := Lib.hid (fun k (hk : k < N) W => byS_any n (k : Int) W h3 (by omega) (by omega) (hfk k hk))
  have HIS := Lib.hid (fun k (hk : k < N) => byL_is n k h3 h6 (by rw [← hN]; exact hk))
  clear hs h' hf1 hf3 hf4 hN hfk
  go_enter Try.func60, Try.ntmps60
  go_wp2
  generalize w.alloc (.cells #[] 23) = W0 at *
  have hBw0 := hb0.size
  generalize hB : w.heap.size = B at *
  have HB := Lib.hid hB
  clear hB
  go_loopw [5, 6] (fun v i wr => ∃ k : Nat, k ≤ N ∧ i = .int .i64 k ∧ Hid (GrowS wr B v (arcTo n L k)) ∧ Hid (Rd wr H' A' m L) ∧ Below B w wr) (fun _ i _ => N - (intOf i).toNat)
  case atStart => exact ⟨0, Nat.zero_le _, rfl, by simpa [arcTo, Hid] using hg0, hr0, hb0⟩
  case round =>
    obtain ⟨k, hk, rfl, hgs, hrd, hbl⟩ := hrel
    clear hg0 hr0 hb0
    have HBL := Lib.hid hbl
    have hBw : B ≤ wr.heap.size := by rw [← HB.out]; exact hbl.size
    clear hbl
    by_cases hlt : k < N
    · have HS := Lib.hid (HBY.out k hlt)
      have hI := HIS.out k hlt
      have hlen : (byL n (k : Int)).length = n := hI.1
      go_wp2_with fail
      refine (HFACT.out _).mono ?_
      rintro e w' ⟨rfl, rfl⟩
      go_wp2_with fail
      refine (HS.out _).mono ?_
      rintro e w2 ⟨vr, rfl, ho, hb2⟩
      obtain ⟨Ar, cr, rfl⟩ := ho.slice
      have HG2 := Lib.hid (hgs.out.below hb2 (Nat.le_refl _))
      have HR2 := Lib.hid (hrd.out.below (hb2.mono (by omega)))
      have HRV := Lib.hid (ho.rowV5.less hBw)
      have HBL2 := Lib.hid (HBL.out.trans (hb2.mono hBw))
      have hs2 := hb2.size
      have HYES := Lib.hid (arcTo_yes n L k)
      have HNO := Lib.hid (arcTo_no n L k)
      have hkl := arcTo_len n L k
      have HRD : Hid (Rd w2 w2.heap.size Ar n (byL n (k : Int))) := by have := ho.rd.2; rw [hlen] at this; exact this
      have hbd := isR_bd hI h3 (by omega)
      have HRUN := Lib.hid (fun (W : World) (s : Nat) (hs : s < 128) (H : Nat) (hW : Rd W H Ar n (byL n (k : Int))) => runS_any Ar n cr H (byL n (k : Int)) s W hW (by omega) (by omega) hbd hs)
      rw [hlen] at HRV ⊢
      clear ho hb2 hI hgs hrd hlen hbd
      obtain ⟨a, ha⟩ : ∃ a, a = byL n (k : Int) := ⟨_, rfl⟩
      rw [← ha] at HRV HRD HRUN HYES HNO
      clear ha
      have hBw2 : B ≤ w2.heap.size := by omega
      generalize hE : w2.heap.size = E at *
      have HE := Lib.hid hE
      clear hE
      have HRD0 := Lib.hid HRD.out
      clear HRD HS HBY HIS
      have hkb : k ≤ 720 := by omega
      generalize arcTo n L k = M at *
      obtain ⟨M', hM'⟩ : ∃ M', M' = arcTo n L (k + 1) := ⟨_, rfl⟩
      rw [← hM'] at HYES HNO
      have HM' := Lib.hid hM'
      clear hM'
      have HI7 : Hid (∀ s : Nat, isA7 a (s : Int) = ((runN (hasN s) a : Int) == 1)) := fun s => by rw [isA7, Int.toNat_natCast, Bool.eq_iff_iff, decide_eq_true_iff, beq_iff_eq]; omega
      go_wp2
      go_loop [8, 9] (fun okv i => ∃ j : Nat, j ≤ m ∧ i = .int .i64 j ∧ okv = .bool (allT a L j)) (fun _ i => m - (intOf i).toNat)
      case atStart => exact ⟨0, Nat.zero_le _, rfl, by simp [allT]⟩
      case round =>
        obtain ⟨j, hj, rfl, rfl⟩ := hrel
        by_cases hlj : j < m
        · have hjl : j < L.length := by rw [HL.out]; exact hlj
          obtain ⟨b, o, rfl, hbB, hcs⟩ := HR2.out.at_ (by omega)
          have hc := hcs j hlj
          have HST := Lib.hid (allT_step a L j hjl)
          have hsb := HSB.out j hlj
          clear hcs
          generalize L.getD j 0 = x at *
          obtain ⟨s, rfl⟩ : ∃ s : Nat, x = (s : Int) := ⟨x.toNat, by omega⟩
          have HC := Lib.hid (HRUN.out w2 s (by omega) E HRD0.out)
          have hrr := HI7.out s
          generalize isA7 a (s : Int) = q1 at *
          generalize runN (hasN s) a = z at *
          cases hok : allT a L j with
          | false =>
            rw [hok] at HST
            clear HC hok hrr
            go_wp2
            go_round
            case rel => exact ⟨j + 1, by omega, by go_num, by rw [HST.out]; rfl⟩
            case measure => simp [intOf]; omega
          | true =>
            rw [hok, Bool.true_and] at HST
            rw [hrr] at HST
            clear hok hrr
            go_wp2_with (go_at_call 46; refine HC.out.mono ?_; rintro e w5 ⟨rfl, rfl⟩)
            go_round
            case rel => exact ⟨j + 1, by omega, by go_num, by rw [HST.out]⟩
            case measure => simp [intOf]; omega
        · obtain rfl : j = m := by omega
          have HAL : Hid (allT a L j = L.all (isA7 a)) := by rw [Hid, ← HL.out]; exact allT_full a L
          rw [HAL.out]
          cases hall : L.all (isA7 a) with
          | true =>
            have HST := Lib.hid (HYES.out hall)
            clear HYES HNO hall HAL HRUN HI7
            obtain ⟨xs, hx1, hx2⟩ := HG2.out
            have HX1 := Lib.hid hx1
            have HX2 := Lib.hid hx2
            have hMb : M.length ≤ 720 := by omega
            have hEB : B ≤ w2.heap.size := by rw [HE.out]; exact hBw2
            clear hx1 hx2
            go_wp2_with (at_builtin; refine wpList_append_own _ rfl _ _ 70 rfl B 23 i0 (.slice none 0 0) 1 24 Try.underlying70 hi hz0 hz1 hz2 rfl (by decide) _ _ _ rfl (HX1.out.alloc _) ⟨_, 0, none⟩ 1 1 [.slice Ar n cr] rfl rfl (one_cell w2 _ _) (by simp [Value.oneCell']) (by unfold maxLen; omega) (by omega) (by simp; omega) ?_)
            intro v' w5 hown5 hgr5 _
            have HG5 := Lib.hid (grow_row rfl HX1.out HX2.out HRV.out _ hown5 hgr5)
            rw [HST.out] at HG5
            have HB5 := Lib.hid ((HBL2.out.alloc hEB _).grown hgr5 (by simp; omega) (fun i hi => (HX1.out.lt i hi).1))
            have HR5 := Lib.hid (HR2.out.below (((Below.refl H' w2).alloc (by omega) _).grown hgr5 (by simp; omega) (fun i hi => by have := (HX1.out.lt i hi).1; omega)))
            clear hown5 hgr5
            go_wp2
            go_roundw
            case rel => exact ⟨k + 1, by omega, by go_num, by rw [← HM'.out]; exact HG5, HR5, HB5.out⟩
            case measure => simp [intOf]; omega
          | false =>
            have HST := Lib.hid (HNO.out hall)
            clear HYES HNO hall HAL HRUN HI7
            rw [HST.out] at HG2
            go_wp2
            go_roundw
            case rel => exact ⟨k + 1, by omega, by go_num, by rw [← HM'.out]; exact HG2, HR2, HBL2.out⟩
            case measure => simp [intOf]; omega
    · obtain rfl : k = N := by omega
      go_wp2_with fail
      refine (HFACT.out _).mono ?_
      rintro e w' ⟨rfl, rfl⟩
      rw [HN.out, arcTo_full] at hgs
      go_wp2
      go_ret
      exact ⟨_, rfl, by rw [HB.out]; exact hgs.out, by rw [HB.out]; exact HBL.out⟩
end Go.Proofs.Ytheoepbcejlncaa

namespace Go.Proofs.Ytheoepbcejlncaa
open Go.ChangeShapes Go.WideShapes Go.ChangeAt Go.RowKit

set_option maxHeartbeats 1000000 in
theorem arS_any (A : Option Addr) (n c H : Nat) (q : Int) (L : List Int) (w : World) (h : Rd w H A n L) (hH : H ≤ w.heap.size) (hn : n ≤ 1048576) :
    Calls Try.prog 26 #[.int .i64 q, .slice A n c] w fun e w' => e = .returned (.tuple #[.int .i64 (arR q L), .bool (famB q L)]) ∧ Below w.heap.size w w' := by
  have hl := h.len
  have HC := Lib.hid (famS_any A n c H L q w h hn)
  by_cases ht : Fam q L
  · obtain ⟨k, rfl, h3, h6, h10, h128⟩ := fam_nat ht
    have HTY := Lib.hid (fam_yes ht)
    have HG := Lib.hid (fun p => l7Rings_any A n c H k L (w.drewN p) (h.drewN p) hH h3 h6 (by rw [← hl]; exact h10) h128)
    have HR : Hid (arR (k : Int) L = ((arcL k L).length : Nat)) := by rw [Hid, arR, if_pos ht, Int.toNat_natCast]
    rw [fam_yes ht] at HC
    rw [HR.out, HTY.out]
    clear h hl ht
    go_enter Try.func26, Try.ntmps26
    go_wp2_with fail
    refine HC.out.mono ?_
    rintro e w1 ⟨rfl, p, rfl⟩
    go_wp2_with fail
    refine (HG.out p).mono ?_
    rintro e w2 ⟨v, rfl, hg2, hb2⟩
    obtain ⟨A2, c2, rfl, _⟩ := hg2.slice
    clear hg2
    go_wp2
    go_ret2
    exact ⟨rfl, (below_drewN (Below.refl _ _) p).trans hb2⟩
  · have HTY := Lib.hid (fam_no ht)
    have HR : Hid (arR q L = 0) := by rw [Hid, arR, if_neg ht]
    rw [fam_no ht] at HC
    rw [HR.out, HTY.out]
    clear h hl ht
    go_enter Try.func26, Try.ntmps26
    go_wp2_with (go_at_call 23; refine HC.out.mono ?_; rintro e w1 ⟨rfl, p, rfl⟩)
    go_ret2
    exact ⟨rfl, below_drewN (Below.refl _ _) p⟩

set_option maxHeartbeats 1000000 in
theorem afS_any (A : Option Addr) (n c H : Nat) (q : Int) (L : List Int) (w : World) (h : Rd w H A n L) (hH : H ≤ w.heap.size) (hn : n ≤ 1048576) :
    Calls Try.prog 29 #[.int .i64 q, .slice A n c] w fun e w' => ∃ v, e = .returned (.tuple #[v, .bool (afB q L)]) ∧ OwnG w' w.heap.size v (afR q L) ∧ Below w.heap.size w w' := by
  have hl := h.len
  have HC := Lib.hid (famS_any A n c H L q w h hn)
  by_cases ht : Fam q L
  · obtain ⟨k, rfl, h3, h6, h10, h128⟩ := fam_nat ht
    have HG := Lib.hid (fun p => l7Rings_any A n c H k L (w.drewN p) (h.drewN p) hH h3 h6 (by rw [← hl]; exact h10) h128)
    have HR : Hid (afR (k : Int) L = rowK (arcL k L) 0 ∧ afB (k : Int) L = decide (0 < (arcL k L).length)) := ⟨by rw [afR, if_pos ht, Int.toNat_natCast], by rw [afB, if_pos ht, Int.toNat_natCast]⟩
    rw [fam_yes ht] at HC
    rw [HR.out.1, HR.out.2]
    clear h hl ht
    go_enter Try.func29, Try.ntmps29
    go_wp2_with fail
    refine HC.out.mono ?_
    rintro e w1 ⟨rfl, p, rfl⟩
    go_wp2_with fail
    refine (HG.out p).mono ?_
    rintro e w2 ⟨v, rfl, hg2, hb2⟩
    have HB2 := Lib.hid ((below_drewN (Below.refl _ _) p).trans hb2)
    by_cases h0 : 0 < (arcL k L).length
    · obtain ⟨g, c', A', d', rfl, hc, hrow⟩ := hg2.row7 h0
      have HD : Hid (decide (0 < (arcL k L).length) = true) := by simpa [Hid] using h0
      have HROW := Lib.hid hrow.1
      obtain ⟨z, hz⟩ : ∃ z, z = (arcL k L).length := ⟨_, rfl⟩
      rw [← hz] at h0 ⊢
      clear hg2 hrow hb2 HG HC HR hz
      have he' : ((z : Int) == 0) = false := by simp; omega
      go_wp2
      go_ret2
      exact ⟨.slice A' (rowK (arcL k L) 0).length d', by rw [HD.out]; rfl, HROW.out, HB2.out⟩
    · have hz : (arcL k L).length = 0 := by omega
      have HD : Hid (decide (0 < (arcL k L).length) = false) := by simpa [Hid] using h0
      have HE : Hid (rowK (arcL k L) 0 = []) := by rw [List.eq_nil_of_length_eq_zero hz]; rfl
      obtain ⟨A', d', rfl, _⟩ := hg2.slice
      rw [hz]
      clear hg2 hb2 HG HC HR hz
      go_wp2_with fail
      refine (none_any _).mono ?_
      rintro e w3 ⟨v3, rfl, ho3, hb3⟩
      go_wp2
      go_ret2
      exact ⟨v3, by rw [HD.out]; rfl, by rw [HE.out]; exact (own_less ho3 HB2.out.size).gen, HB2.out.trans (hb3.mono HB2.out.size)⟩
  · have HR : Hid (afR q L = [] ∧ afB q L = false) := ⟨by rw [afR, if_neg ht], by rw [afB, if_neg ht]⟩
    rw [fam_no ht] at HC
    rw [HR.out.1, HR.out.2]
    clear h hl ht
    go_enter Try.func29, Try.ntmps29
    go_wp2_with fail
    refine HC.out.mono ?_
    rintro e w1 ⟨rfl, p, rfl⟩
    go_wp2_with fail
    refine (none_any _).mono ?_
    rintro e w3 ⟨v3, rfl, ho3, hb3⟩
    go_wp2
    go_ret2
    exact ⟨_, rfl, ho3.gen, (below_drewN (Below.refl _ _) p).trans hb3⟩

end Go.Proofs.Ytheoepbcejlncaa

namespace Go.Proofs.Ytheoepbcejlncaa
open Go.ChangeShapes Go.WideShapes Go.ChangeAt Go.RowKit

/-- The greatest number of a family's sets that are arcs of one of the first k rings. -/
def mostA (n : Nat) (L : List Int) : Nat → Nat
  | 0 => 0
  | k + 1 => max (mostA n L k) (cntA (byL n (k : Int)) L)
theorem mostA_len (n : Nat) (L : List Int) : ∀ k, mostA n L k ≤ L.length
  | 0 => Nat.zero_le _
  | k + 1 => by
    have h1 := mostA_len n L k
    have h2 : cntA (byL n (k : Int)) L ≤ L.length := List.length_filter_le _ _
    unfold mostA
    omega
def amR (q : Int) (L : List Int) : Int := if Fam q L then (mostA q.toNat L (facM q.toNat) : Nat) else 0

set_option maxRecDepth 10000 in
set_option maxHeartbeats 2000000 in
theorem amI_any (A : Option Addr) (m c H : Nat) (q : Int) (L : List Int) (w : World) (h : Rd w H A m L) (hH : H ≤ w.heap.size) (hm : m ≤ 1048576) (_ : m ≤ c) (_ : c ≤ 9223372036854775807) :
    Calls Try.prog 37 #[.int .i64 q, .slice A m c] w fun e w' => e = .returned (.tuple #[.int .i64 (amR q L), .bool (famB q L)]) ∧ Below w.heap.size w w' := by
  have HC := Lib.hid (readFam_any A m c H L q w h hH hm)
  by_cases ht : Fam q L
  rotate_left
  · have HR : Hid (amR q L = 0) := by rw [Hid, amR, if_neg ht]
    rw [fam_no ht] at HC ⊢
    rw [HR.out]
    clear h ht
    go_enter Try.func37, Try.ntmps37
    go_wp2_with fail
    refine HC.out.mono ?_
    rintro e w1 ⟨v1, rfl, _, hn, hb1⟩
    obtain rfl := hn (by simp)
    go_wp2
    go_ret2
    exact ⟨rfl, hb1⟩
  obtain ⟨n, rfl, h3, h6, h10, h128⟩ := fam_nat ht
  have HR : Hid (amR (n : Int) L = (mostA n L (facM n) : Nat)) := by rw [Hid, amR, if_pos ht, Int.toNat_natCast]
  rw [fam_yes ht] at HC ⊢
  rw [HR.out]
  have hn8 := (facM_eq n h3 h6).2.1
  have HALL := Lib.hid (fun W => allRings_any n W h3 h6)
  have hpl : (padM (ringsL n)).length = facM n := by simp [padM, ringsL_length]
  have HPL := Lib.hid hpl
  have HROW : Hid (∀ k, k < facM n → rowK (padM (ringsL n)) k = padR (byL n (k : Int))) := fun k hk => by
    simp [padM, ringsL, rowK, List.getD, hk]
  have HIS := Lib.hid (fun k (hk : k < facM n) => byL_is n k h3 h6 hk)
  have H7 := Lib.hid (fun (k : Nat) => padR_length (byL n (k : Int)) (by rw [byL_length]; omega))
  have HLK := Lib.hid (fun k (hk : k < facM n) W => linked_any (byL n (k : Int)) W (by rw [byL_length]; omega) (by rw [byL_length]; omega) (fun x hx => (isR_bd (byL_is n k h3 h6 hk) h3 (by omega) x hx).1))
  have HPC := Lib.hid (fun k (hk : k < facM n) (g : Nat → Nat) (D B : Nat) (v : Value) W (hl : Lnk W D g (byL n (k : Int))) (hv : FamV W B v L) => places_any (byL n (k : Int)) L D B g v W hl hv (by rw [byL_length]; omega) (by rw [byL_length]; omega) (isR_bd (byL_is n k h3 h6 hk) h3 (by omega)) (fun s hs => (h128 s hs).2) h10)
  have HMB := Lib.hid (fun k => mostA_len n L k)
  have HCB : Hid (∀ k : Nat, cntA (byL n (k : Int)) L ≤ L.length) := fun k => List.length_filter_le _ _
  have HST : Hid (∀ k, mostA n L (k + 1) = max (mostA n L k) (cntA (byL n (k : Int)) L)) := fun k => rfl
  obtain ⟨N, hN⟩ : ∃ N, N = facM n := ⟨_, rfl⟩
  rw [← hN] at HPL HROW HIS HLK HPC hn8 ⊢
  have HN1 : Hid (0 < N) := by have := (facM_eq n h3 h6).2.2.1; rw [Hid]; omega
  clear h ht hpl h128 HR hN HIS
  unfold agp at HLK
  go_enter Try.func37, Try.ntmps37
  go_wp2_with fail
  refine HC.out.mono ?_
  rintro e w1 ⟨v1, rfl, hf, _, hb1⟩
  have hf1 := hf (by simp)
  have HF1 := Lib.hid (fun (W : World) (hW : Below w1.heap.size w1 W) => hf1.below hW (Nat.le_refl _))
  have HB1 := Lib.hid hb1
  obtain ⟨A1, c1, rfl⟩ := hf1.slice
  obtain ⟨z, hz⟩ : ∃ z, z = L.length := ⟨_, rfl⟩
  rw [← hz] at HF1 HMB HCB h10 ⊢
  clear hf hf1 hb1 hz
  go_wp2_with fail
  refine (HALL.out _).mono ?_
  rintro e w2 ⟨v2, rfl, hr2, hb2⟩
  obtain ⟨A2, c2, rfl⟩ := hr2.slice
  rw [HPL.out] at hr2 ⊢
  have HR2 := Lib.hid hr2
  have HB2 := Lib.hid hb2
  clear hr2 hb2
  go_wp2_with fail
  have hN1 : 0 < N := HN1.out
  obtain ⟨g, e⟩ : ∃ g, A2 = some ⟨g, 0, none⟩ := by
    obtain ⟨g, c', e0, _⟩ := HR2.out.elem (k := 0) (by rw [HPL.out]; exact hN1)
    rw [HPL.out] at e0
    injection e0 with e1 _ _
    exact ⟨g, e1⟩
  subst e
  have HW2 : Hid (Below w1.heap.size w1 w2) := HB2
  have HM0 : Hid (mostA n L 0 = 0) := rfl
  have hEl : ∀ i, (Value.slice (some ⟨g, 0, none⟩) N c2).ownBlock = some i → i < w2.heap.size := fun i hi => (HR2.out.lt i hi).2
  go_loopw [8, 22] (fun v i wr => ∃ k : Nat, k ≤ N ∧ v = .int .i64 (mostA n L k : Int) ∧ i = .int .i64 k ∧ Hid (Below w2.heap.size w2 wr)) (fun _ i _ => N - (intOf i).toNat)
  case atStart => exact ⟨0, Nat.zero_le _, by rw [HM0.out]; rfl, rfl, Below.refl _ _⟩
  case round =>
    obtain ⟨k, hk, rfl, rfl, hbl⟩ := hrel
    have HBW : Hid (Below w1.heap.size w1 wr) := HW2.out.trans (hbl.out.mono HW2.out.size)
    by_cases hlt : k < N
    · have HR3 := Lib.hid (HR2.out.below hbl.out hEl)
      have HKL : Hid (k < (padM (ringsL n)).length) := by rw [Hid, HPL.out]; exact hlt
      have HPAD := Lib.hid (HROW.out k hlt)
      have HLKk := Lib.hid (HLK.out k hlt)
      have HPCk := Lib.hid (HPC.out k hlt)
      have H7k := H7.out k
      have HNT := Lib.hid (new_ring wr)
      have hstep := HST.out k
      have hb1 := HMB.out k
      have hb2 := HMB.out (k + 1)
      have hb3 := HCB.out k
      obtain ⟨r1, hr1⟩ : ∃ r1, r1 = mostA n L (k + 1) := ⟨_, rfl⟩
      have HR1 := Lib.hid hr1
      rw [← hr1] at hstep hb2
      have hsw : w2.heap.size ≤ wr.heap.size := hbl.out.size
      clear hr1
      generalize mostA n L k = r at *
      generalize hq : cntA (byL n (k : Int)) L = q at *
      generalize padR (byL n (k : Int)) = P at *
      have HS := Lib.hid hstep
      clear hstep hq
      go_wp2_with (first
        | (refine load_elem rfl _ 54 rfl _ rfl Try.underlying54 g N c2 w1.heap.size k 7 (padM (ringsL n)) HR3 HKL.out ring_size rfl ?_; rw [HPAD.out])
        | (refine store_ring rfl _ _ rfl wr.heap.size zero7 P rfl H7k rfl rfl HNT ?_; intro w6 HA6 hg6 hs6
           have HB6 : Hid (Below w2.heap.size w2 w6) := (hbl.out.alloc hsw (.cells #[.int .i64 0, .int .i64 0, .int .i64 0, .int .i64 0, .int .i64 0, .int .i64 0, .int .i64 0] 54)).grown hg6 (by simp; omega) (by simp; omega)
           clear hg6 hs6)
        | (refine load_ring rfl _ rfl wr.heap.size P H7k rfl HA6 ?_)
        | (go_at_call 66; refine (HLKk.out _).mono ?_; rintro e w7 ⟨gl, rfl, hl7, hb7⟩
           have HB7 : Hid (Below w2.heap.size w2 w7) := HB6.out.trans (hb7.mono HB6.out.size)
           have HF7 := Lib.hid (HF1.out w7 (HW2.out.trans (HB7.out.mono HW2.out.size)))
           have HP7 := Lib.hid (HPCk.out gl _ _ _ w7 hl7 HF7.out)
           clear hl7 hb7)
        | (go_at_call 67; refine HP7.out.mono ?_; rintro e w8 ⟨rfl, hb8⟩
           have HB8 : Hid (Below w2.heap.size w2 w8) := HB7.out.trans (hb8.mono HB7.out.size)
           clear hb8))
      go_roundw
      case rel => exact ⟨k + 1, by omega, by rw [← HR1.out, HS.out]; first | rfl | (congr 1; omega), by go_num, HB8⟩
      case measure => simp [intOf]; omega
    · obtain rfl : k = N := by omega
      go_wp2
      go_ret2
      exact ⟨rfl, HB1.out.trans (HBW.out.mono HB1.out.size)⟩

set_option maxRecDepth 10000 in
set_option maxHeartbeats 2000000 in
theorem amS_any (A' : Option Addr) (m d H' : Nat) (q : Int) (L : List Int) (w : World) (h' : Rd w H' A' m L) (hH : H' ≤ w.heap.size) (hm : m ≤ 1048576) :
    Calls Try.prog 38 #[.int .i64 q, .slice A' m d] w fun e w' => e = .returned (.tuple #[.int .i64 (amR q L), .bool (famB q L)]) ∧ Below w.heap.size w w' := by
  have HC := Lib.hid (famS_any A' m d H' L q w h' hm)
  by_cases ht : Fam q L
  rotate_left
  · have HR : Hid (amR q L = 0) := by rw [Hid, amR, if_neg ht]
    rw [fam_no ht] at HC ⊢
    rw [HR.out]
    clear h' ht
    go_enter Try.func38, Try.ntmps38
    go_wp2_with (go_at_call 23; refine HC.out.mono ?_; rintro e w1 ⟨rfl, p, rfl⟩)
    go_ret2
    exact ⟨rfl, below_drewN (Below.refl _ _) p⟩
  obtain ⟨n, rfl, h3, h6, h10, hs⟩ := fam_nat ht
  have HR : Hid (amR (n : Int) L = (mostA n L (facM n) : Nat)) := by rw [Hid, amR, if_pos ht, Int.toNat_natCast]
  rw [fam_yes ht] at HC ⊢
  rw [HR.out]
  obtain ⟨hf1, hf2, hf3, hf4⟩ := facM_eq n h3 h6
  have HL := Lib.hid h'.len
  rw [HL.out] at h10
  have HSB := Lib.hid (fun k (hk : k < m) => hs _ (getD_mem L k (by rw [HL.out]; exact hk)))
  have HRD := Lib.hid (fun (W : World) (hW : Below w.heap.size w W) => h'.below (hW.mono hH))
  have HFM := Lib.hid hf1
  obtain ⟨N, hN⟩ : ∃ N, N = facM n := ⟨_, rfl⟩
  rw [← hN] at HFM hf2 ⊢
  have hfk : ∀ k : Nat, k < N → (k : Int) < facN (n - 1) := fun k hk => by rw [← HFM.out]; omega
  have HFACT := Lib.hid (fun W => facS_nat (n - 1) ((n : Int) - 1) W (by omega) (by omega))
  rw [← HFM.out] at HFACT
  have HBY := Lib.hid (fun k (hk : k < N) W => byS_any n (k : Int) W h3 (by omega) (by omega) (hfk k hk))
  have HIS := Lib.hid (fun k (hk : k < N) => byL_is n k h3 h6 (by rw [← hN]; exact hk))
  have HMB := Lib.hid (fun k => mostA_len n L k)
  have HST : Hid (∀ k, mostA n L (k + 1) = max (mostA n L k) (cntA (byL n (k : Int)) L)) := fun k => rfl
  have HM0 : Hid (mostA n L 0 = 0) := rfl
  clear hs h' hf1 hf3 hf4 hN hfk ht HR
  go_enter Try.func38, Try.ntmps38
  go_wp2_with (go_at_call 23; refine HC.out.mono ?_; rintro e w1 ⟨rfl, p, rfl⟩)
  have HB0 := Lib.hid (below_drewN (Below.refl w.heap.size w) p)
  generalize w.drewN p = W0 at *
  go_loopw [6, 7] (fun v i wr => ∃ k : Nat, k ≤ N ∧ v = .int .i64 (mostA n L k : Int) ∧ i = .int .i64 k ∧ Hid (Below w.heap.size w wr)) (fun _ i _ => N - (intOf i).toNat)
  case atStart => exact ⟨0, Nat.zero_le _, by rw [HM0.out]; rfl, rfl, HB0⟩
  case round =>
    obtain ⟨k, hk, rfl, rfl, hbl⟩ := hrel
    have hBw : w.heap.size ≤ wr.heap.size := hbl.out.size
    by_cases hlt : k < N
    · have HS := Lib.hid (HBY.out k hlt)
      have hI := HIS.out k hlt
      have hlen : (byL n (k : Int)).length = n := hI.1
      have hstep := HST.out k
      have hmb1 := HMB.out k
      have hmb2 := HMB.out (k + 1)
      rw [HL.out] at hmb1 hmb2
      go_wp2_with fail
      refine (HFACT.out _).mono ?_
      rintro e w' ⟨rfl, rfl⟩
      go_wp2_with fail
      refine (HS.out _).mono ?_
      rintro e w2 ⟨vr, rfl, ho, hb2⟩
      obtain ⟨Ar, cr, rfl⟩ := ho.slice
      have HB2 := Lib.hid (hbl.out.trans (hb2.mono hBw))
      have HR2 := Lib.hid (HRD.out w2 HB2.out)
      have HRD2 : Hid (Rd w2 w2.heap.size Ar n (byL n (k : Int))) := by have := ho.rd.2; rw [hlen] at this; exact this
      have hbd := isR_bd hI h3 (by omega)
      have HRUN := Lib.hid (fun (s : Nat) (hs : s < 128) => runS_any Ar n cr _ (byL n (k : Int)) s w2 HRD2.out (by omega) (by omega) hbd hs)
      rw [hlen]
      clear ho hb2 hI hlen hbd HRD2 HS
      obtain ⟨a, ha⟩ : ∃ a, a = byL n (k : Int) := ⟨_, rfl⟩
      rw [← ha] at HRUN hstep
      clear ha
      obtain ⟨r1, hr1⟩ : ∃ r1, r1 = mostA n L (k + 1) := ⟨_, rfl⟩
      have HR1 := Lib.hid hr1
      rw [← hr1] at hstep hmb2
      clear hr1
      generalize mostA n L k = r at *
      have HSTEP := Lib.hid hstep
      clear hstep
      have HI7 : Hid (∀ s : Nat, isA7 a (s : Int) = ((runN (hasN s) a : Int) == 1)) := fun s => by rw [isA7, Int.toNat_natCast, Bool.eq_iff_iff, decide_eq_true_iff, beq_iff_eq]; omega
      have HC1 := Lib.hid (fun j => cntTo_step a L j)
      have HC2 := Lib.hid (fun j => cntTo_len a L j)
      have HC3 : Hid (cntTo a L m = cntA a L) := by rw [Hid, ← HL.out]; exact cntTo_full a L
      have HC0 : Hid (cntTo a L 0 = 0) := rfl
      rw [← HC3.out] at HSTEP
      clear HC3
      generalize cntTo a L = R at *
      go_wp2
      go_loop [9, 10] (fun v i => ∃ j : Nat, j ≤ m ∧ i = .int .i64 j ∧ v = .int .i64 (R j : Int)) (fun _ i => m - (intOf i).toNat)
      case atStart => exact ⟨0, Nat.zero_le _, rfl, by rw [HC0.out]; rfl⟩
      case round =>
        obtain ⟨j, hj, rfl, rfl⟩ := hrel
        by_cases hlj : j < m
        · have hjl : j < L.length := by rw [HL.out]; exact hlj
          obtain ⟨b, o, rfl, hbB, hcs⟩ := HR2.out.at_ (by omega)
          have hc := hcs j hlj
          have hst := HC1.out j hjl
          have hsb := HSB.out j hlj
          have hj1 := HC2.out j
          have hj2 := HC2.out (j + 1)
          clear hcs
          generalize L.getD j 0 = x at *
          obtain ⟨s, rfl⟩ : ∃ s : Nat, x = (s : Int) := ⟨x.toNat, by omega⟩
          have HCC := Lib.hid (HRUN.out s (by omega))
          rw [HI7.out] at hst
          obtain ⟨q1, hq1⟩ : ∃ q1, q1 = R (j + 1) := ⟨_, rfl⟩
          have HQ1 := Lib.hid hq1
          rw [← hq1] at hst hj2
          clear hq1
          generalize R j = q0 at *
          generalize runN (hasN s) a = z at *
          by_cases hz : z = 1
          · have hb : ((z : Int) == 1) = true := by simp; omega
            have HQ : Hid (q1 = q0 + 1) := by rw [Hid, hst, if_pos hb]
            clear hst hz
            go_wp2_with (go_at_call 46; refine HCC.out.mono ?_; rintro e w5 ⟨rfl, rfl⟩)
            go_round
            case rel => exact ⟨j + 1, by omega, by go_num, by rw [← HQ1.out, HQ.out]; try go_num⟩
            case measure => simp [intOf]; omega
          · have hb : ((z : Int) == 1) = false := by simp; omega
            have HQ : Hid (q1 = q0) := by rw [Hid, hst, if_neg (by rw [hb]; simp), Nat.add_zero]
            clear hst hz
            go_wp2_with (go_at_call 46; refine HCC.out.mono ?_; rintro e w5 ⟨rfl, rfl⟩)
            go_round
            case rel => exact ⟨j + 1, by omega, by go_num, by rw [← HQ1.out, HQ.out]⟩
            case measure => simp [intOf]; omega
        · obtain rfl : j = m := by omega
          have hj1 := HC2.out j
          generalize R j = q0 at *
          go_wp2
          go_roundw
          case rel => exact ⟨k + 1, by omega, by rw [← HR1.out, HSTEP.out]; first | rfl | (congr 1; omega), by go_num, HB2⟩
          case measure => simp [intOf]; omega
    · obtain rfl : k = N := by omega
      go_wp2_with fail
      refine (HFACT.out _).mono ?_
      rintro e w' ⟨rfl, rfl⟩
      go_wp2
      go_ret2
      exact ⟨rfl, hbl.out⟩
theorem amS_law (A : Option Addr) (m c H : Nat) (q : Int) (L : List Int) (w : World) (h : Rd w H A m L) (hH : H ≤ w.heap.size) (hm : m ≤ 1048576) :
    Calls Try.prog 38 #[.int .i64 q, .slice A m c] w fun e w' => e = .returned (.tuple #[.int .i64 (amR q L), .bool (famB q L)]) ∧ Below w.heap.size w w' := amS_any A m c H q L w h hH hm
end Go.Proofs.Ytheoepbcejlncaa

namespace Go.Proofs.Ytheoepbcejlncaa
open Go.ChangeShapes Go.WideShapes Go.ChangeAt Go.RowKit

section
variable {w : World} {A : Option Addr} {n c : Nat} {L : List Int}
theorem cI_ArcRingsM (h : Rw w A n c L) (x : Int) : Calls Try.prog 25 #[.int .i64 x, .slice A n c] w fun e w' => e = .returned (.tuple #[.int .i64 (arR x L), .bool (famB x L)]) ∧ Below w.heap.size w w' :=
  arI_any A n c w.heap.size x L w h.rd (Nat.le_refl _) h.big h.2.1 h.2.2.1
theorem cI_ArcMost (h : Rw w A n c L) (x : Int) : Calls Try.prog 37 #[.int .i64 x, .slice A n c] w fun e w' => e = .returned (.tuple #[.int .i64 (amR x L), .bool (famB x L)]) ∧ Below w.heap.size w w' :=
  amI_any A n c w.heap.size x L w h.rd (Nat.le_refl _) h.big h.2.1 h.2.2.1
theorem cS_ArcMost (h : Rw w A n c L) (x : Int) : Calls Try.prog 38 #[.int .i64 x, .slice A n c] w fun e w' => e = .returned (.tuple #[.int .i64 (amR x L), .bool (famB x L)]) ∧ Below w.heap.size w w' :=
  amS_law A n c w.heap.size x L w h.rd (Nat.le_refl _) h.big
end
theorem cntA_le (l L : List Int) : cntA l L ≤ L.length := List.length_filter_le _ _
theorem mostA_ge (n : Nat) (L : List Int) : ∀ k j : Nat, j < k → cntA (byL n (j : Int)) L ≤ mostA n L k
  | k + 1, j, h => by
    unfold mostA
    rcases Nat.lt_succ_iff_lt_or_eq.1 h with h1 | rfl
    · have := mostA_ge n L k j h1; omega
    · omega
theorem mostA_reach (n : Nat) (L : List Int) : ∀ k : Nat, 0 < k → mostA n L k = L.length → ∃ j : Nat, j < k ∧ cntA (byL n (j : Int)) L = L.length
  | k + 1, _, h => by
    have h1 := cntA_le (byL n (k : Int)) L
    have h2 := mostA_len n L k
    unfold mostA at h
    by_cases hk : cntA (byL n (k : Int)) L = L.length
    · exact ⟨k, by omega, hk⟩
    · rcases Nat.eq_zero_or_pos k with h0 | h0
      · subst h0
        have : mostA n L 0 = 0 := rfl
        omega
      · obtain ⟨j, hj, e⟩ := mostA_reach n L k h0 (by omega)
        exact ⟨j, by omega, e⟩
theorem cnt_full (l L : List Int) : cntA l L = L.length ↔ L.all (isA7 l) = true := by
  rw [List.all_eq_true]
  exact List.length_filter_eq_length_iff
theorem some_ring_key : ∀ n : Fin 7, 3 ≤ n.val → ∀ s : Fin 64, 1 ≤ s.val → s.val + 2 ≤ 2 ^ n.val → (List.range (facM n.val)).any (fun k => isA7 (byL n.val (k : Int)) (s.val : Int)) = true := by decide +kernel
theorem most_told {x : Int} {L : List Int} (h : famB x L = true) : ∃ M r : Nat, amR x L = (M : Int) ∧ arR x L = (r : Int) ∧ M ≤ L.length ∧ (M = L.length ↔ 0 < r) ∧ (0 < L.length → 1 ≤ M) ∧ r ≤ 720 ∧ M ≤ 10 := by
  have ht : Fam x L := of_decide_eq_true h
  obtain ⟨k, rfl, h3, h6, h10, h128⟩ := fam_nat ht
  have hf := (facM_eq k h3 h6).2.2.1
  have hle := mostA_len k L (facM k)
  refine ⟨mostA k L (facM k), (arcL k L).length, by rw [amR, if_pos ht, Int.toNat_natCast], by rw [arR, if_pos ht, Int.toNat_natCast], hle, ⟨fun e => ?_, fun e => ?_⟩, fun e => ?_, arcL_len k L h3 h6, by omega⟩
  · obtain ⟨j, hj, hc⟩ := mostA_reach k L (facM k) (by omega) e
    have hm : byL k (j : Int) ∈ arcL k L := by
      simp only [arcL, ringsL, List.mem_filter, List.mem_map, List.mem_range]
      exact ⟨⟨j, hj, rfl⟩, (cnt_full _ _).1 hc⟩
    exact List.length_pos_of_mem hm
  · obtain ⟨l, hl⟩ := List.exists_mem_of_length_pos e
    simp only [arcL, ringsL, List.mem_filter, List.mem_map, List.mem_range] at hl
    obtain ⟨⟨j, hj, rfl⟩, ha⟩ := hl
    have h1 := mostA_ge k L (facM k) j hj
    have h2 := (cnt_full _ _).2 ha
    omega
  · have hs0 := ht.2.2 _ (getD_mem L 0 e)
    rw [Int.toNat_natCast] at hs0
    simp only [okS, Bool.and_eq_true, decide_eq_true_eq] at hs0
    have hp := pow7 k (by omega)
    have h64 : 2 ^ k ≤ 2 ^ 6 := Nat.pow_le_pow_right (by omega) h6
    have hany := some_ring_key ⟨k, by omega⟩ h3 ⟨(L.getD 0 0).toNat, by omega⟩ (show 1 ≤ (L.getD 0 0).toNat by omega) (show (L.getD 0 0).toNat + 2 ≤ 2 ^ k by omega)
    rw [List.any_eq_true] at hany
    obtain ⟨j, hj, ha⟩ := hany
    rw [List.mem_range] at hj
    have h1 := mostA_ge k L (facM k) j hj
    have e0 : (((L.getD 0 0).toNat : Nat) : Int) = L.getD 0 0 := Int.toNat_of_nonneg (by omega)
    simp only [e0] at ha
    have h2 : 0 < cntA (byL k (j : Int)) L := List.length_pos_of_mem (List.mem_filter.2 ⟨getD_mem L 0 e, ha⟩)
    omega
end Go.Proofs.Ytheoepbcejlncaa
