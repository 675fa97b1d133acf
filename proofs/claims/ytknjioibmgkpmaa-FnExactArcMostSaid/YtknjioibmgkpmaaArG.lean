/- How many of a family's sets are arcs of a ring; the rings of which all of them are: the program. -/
import Derived.Test.YtknjioibmgkpmaaArF
import Derived.Test.YtknjioibmgkpmaaDelF
import Derived.Test.YtknjioibmgkpmaaFirst
import Derived.Deep.RegionHeld3
namespace Go.Proofs.Ytknjioibmgkpmaa
open Go.ChangeShapes Go.WideShapes Go.ChangeAt Go.RowKit

def isA7 (l : List Int) (s : Int) : Bool := decide (runN (hasN s.toNat) l = 1)
/-- How many of some sets are arcs. -/
def cntA (l L : List Int) : Nat := (L.filter (isA7 l)).length
def cntTo (l L : List Int) (k : Nat) : Nat := ((L.take k).filter (isA7 l)).length
theorem cntTo_step (l L : List Int) (k : Nat) (hk : k < L.length) : cntTo l L (k + 1) = cntTo l L k + if isA7 l (L.getD k 0) then 1 else 0 := by
  unfold cntTo
  rw [List.take_succ_eq_append_getElem hk, List.filter_append, List.length_append]
  have e : L.getD k 0 = L[k] := by simp [List.getD, hk]
  rw [e, List.filter_cons, List.filter_nil]
  congr 1
  cases isA7 l L[k] <;> rfl
theorem cntTo_len (l L : List Int) (k : Nat) : cntTo l L k ≤ k := by
  have := List.length_filter_le (isA7 l) (L.take k)
  simp at this
  unfold cntTo
  omega
theorem cntTo_full (l L : List Int) : cntTo l L L.length = cntA l L := by simp [cntTo, cntA]
theorem cnt_all (l L : List Int) : decide (cntA l L < L.length) = !L.all (isA7 l) := by
  have h1 := List.length_filter_le (isA7 l) L
  have h2 : (L.filter (isA7 l)).length = L.length ↔ ∀ a ∈ L, isA7 l a = true := List.length_filter_eq_length_iff
  unfold cntA
  cases h : L.all (isA7 l) with
  | true =>
    rw [List.all_eq_true] at h
    have := h2.2 h
    exact decide_eq_false (by omega)
  | false =>
    have : ¬ ∀ a ∈ L, isA7 l a = true := fun hh => by rw [List.all_eq_true.2 hh] at h; cases h
    have : (L.filter (isA7 l)).length ≠ L.length := fun e => this (h2.1 e)
    exact decide_eq_true (by omega)

theorem FamV.below {w w' : World} {B D : Nat} {v : Value} {L : List Int} (h : FamV w B v L) (hb : Below D w w') (hD : w.heap.size ≤ D) : FamV w' B v L := by
  obtain ⟨xs, h1, h2⟩ := h
  refine ⟨xs, ⟨h1.1, ?_⟩, fun k hk => ?_⟩
  · rcases h1.2 with e | ⟨g, cap, cur, e, hg, hh, rest⟩
    · exact .inl e
    · exact .inr ⟨g, cap, cur, e, hg, (hb.block g (Nat.lt_of_lt_of_le (Array.getElem?_eq_some_iff.1 hh).1 hD)).trans hh, rest⟩
  · obtain ⟨b, s, h3, h4, h5, h6⟩ := h2 k hk
    exact ⟨b, s, h3, h4, h5, h6.below hb (Nat.lt_of_lt_of_le h6.1 hD)⟩
theorem FamV.at_ {w : World} {B : Nat} {v : Value} {L : List Int} (h : FamV w B v L) {k : Nat} (hk : k < L.length) : ∃ g c b s : Nat, v = .slice (some ⟨g, 0, none⟩) L.length c ∧ w.cell? ⟨g, k, none⟩ = some (askV b) ∧ L.getD k 0 = (s : Int) ∧ SetC w b s := by
  obtain ⟨xs, h1, h2⟩ := h
  obtain ⟨b, s, h3, h4, h5, h6⟩ := h2 k hk
  rcases h1.2 with ⟨_, h0⟩ | ⟨g, cap, cur, rfl, _⟩
  · omega
  · exact ⟨g, cap, b, s, rfl, by rw [h1.cellAt k (by omega)]; exact h3, h5, h6⟩

set_option maxRecDepth 10000 in
set_option maxHeartbeats 1000000 in
theorem places_any (l L : List Int) (D B : Nat) (g : Nat → Nat) (v : Value) (w : World) (h : Lnk w D g l) (hv : FamV w B v L) (h2 : 2 ≤ l.length) (h7 : l.length ≤ 7) (hp : ∀ x ∈ l, 0 ≤ x ∧ x < 7) (hs : ∀ s ∈ L, s < 128) (hL : L.length ≤ 10) :
    Calls Try.prog 62 #[.pointer (some ⟨g 0, 0, none⟩), v] w fun e w' => e = .returned (.int .i64 (cntA l L : Int)) ∧ Below w.heap.size w w' := by
  have HLK := Lib.hid (fun (V : World) (hV : Below w.heap.size w V) => h.below hV (Nat.le_refl _))
  have HFV := Lib.hid (fun (V : World) (hV : Below w.heap.size w V) => hv.below hV (Nat.le_refl _))
  have HIA := Lib.hid (fun (s b : Nat) (V : World) (hV : Below w.heap.size w V) (hs : s < 128) (hc : SetC V b s) => isArc_any l s b D g V (h.below hV (Nat.le_refl _)) h2 h7 hp hs hc)
  have HSB := Lib.hid (fun k (hk : k < L.length) => hs _ (getD_mem L k hk))
  have HST := Lib.hid (fun k => cntTo_step l L k)
  have HCB := Lib.hid (fun k => cntTo_len l L k)
  have HFU := Lib.hid (cntTo_full l L)
  obtain ⟨A, c, rfl⟩ := hv.slice
  obtain ⟨R, hR⟩ : ∃ R : Nat → Nat, R = cntTo l L := ⟨_, rfl⟩
  have HIS : Hid (∀ s : Nat, isA7 l (s : Int) = decide (runN (hasN s) l = 1)) := fun s => by rw [isA7, Int.toNat_natCast]
  have HR0 : Hid (R 0 = 0) := by rw [hR]; rfl
  rw [← hR] at HST HCB HFU
  rw [← HFU.out]
  clear hR h hv hs
  obtain ⟨n, hn⟩ : ∃ n, n = L.length := ⟨_, rfl⟩
  have HN := Lib.hid hn
  rw [← hn] at HFV HSB HST HFU hL ⊢
  clear hn
  go_enter Try.func62, Try.ntmps62
  go_wp2
  go_loopw [5, 10] (fun v i wr => ∃ k : Nat, k ≤ n ∧ v = .int .i64 (R k : Int) ∧ i = .int .i64 k ∧ Hid (Below w.heap.size w wr)) (fun _ i _ => n - (intOf i).toNat)
  case atStart => exact ⟨0, Nat.zero_le _, by rw [HR0.out]; rfl, rfl, Below.refl _ _⟩
  case round =>
    obtain ⟨k, hk, rfl, rfl, hbl⟩ := hrel
    by_cases hlt : k < n
    · have hfv := HFV.out wr hbl.out
      rw [HN.out] at hfv
      obtain ⟨g', c', b, s, e, hc, hse, hsc⟩ := hfv.at_ (k := k) (by rw [← HN.out]; exact hlt)
      rw [← HN.out] at e
      injection e with e1 _ e3
      subst e1
      subst e3
      have hs1 := HSB.out k hlt
      have hst := HST.out k hlt
      rw [hse] at hs1 hst
      rw [HIS.out] at hst
      have HC := Lib.hid (HIA.out s b wr hbl.out (by omega) hsc)
      have hr1 := HCB.out k
      have hr2 := HCB.out (k + 1)
      obtain ⟨r1, hr⟩ : ∃ r1, r1 = R (k + 1) := ⟨_, rfl⟩
      have HR1 := Lib.hid hr
      rw [← hr] at hst hr2
      clear hr hfv hse hsc hs1
      generalize R k = r at *
      cases hx : decide (runN (hasN s) l = 1) with
      | true =>
        rw [hx] at hst HC
        rw [if_pos rfl] at hst
        have HS := Lib.hid hst
        clear hst hx
        go_wp2_with fail
        refine HC.out.mono ?_
        rintro e w2 ⟨rfl, hb2⟩
        have HB2 := Lib.hid (hbl.out.trans (hb2.mono hbl.out.size))
        clear hb2
        go_wp2
        go_roundw
        case rel => exact ⟨k + 1, by omega, by rw [← HR1.out, HS.out]; try go_num, by go_num, HB2⟩
        case measure => simp [intOf]; omega
      | false =>
        rw [hx] at hst HC
        rw [if_neg (by simp), Nat.add_zero] at hst
        have HS := Lib.hid hst
        clear hst hx
        go_wp2_with fail
        refine HC.out.mono ?_
        rintro e w2 ⟨rfl, hb2⟩
        have HB2 := Lib.hid (hbl.out.trans (hb2.mono hbl.out.size))
        clear hb2
        go_wp2
        go_roundw
        case rel => exact ⟨k + 1, by omega, by rw [← HR1.out, HS.out]; try go_num, by go_num, HB2⟩
        case measure => simp [intOf]; omega
    · obtain rfl : k = n := by omega
      go_wp2
      go_ret
      exact ⟨rfl, hbl.out⟩

/-- The rings of n points of which all of some sets are arcs. -/
def arcL (n : Nat) (L : List Int) : List (List Int) := (ringsL n).filter fun l => L.all (isA7 l)
theorem arcL_is (n : Nat) (L : List Int) (h3 : 3 ≤ n) (h6 : n ≤ 6) : ∀ l ∈ arcL n L, IsR n l := fun l hl => ringsL_is n h3 h6 l (List.mem_filter.1 hl).1
theorem arcL_len (n : Nat) (L : List Int) (h3 : 3 ≤ n) (h6 : n ≤ 6) : (arcL n L).length ≤ 720 := by
  have h1 := List.length_filter_le (fun l => L.all (isA7 l)) (ringsL n)
  rw [ringsL_length] at h1
  have := (facM_eq n h3 h6).2.1
  unfold arcL; omega
theorem isR_bd {n : Nat} {l : List Int} (h : IsR n l) (h3 : 3 ≤ n) (h7 : n ≤ 7) : ∀ x ∈ l, 0 ≤ x ∧ x < 7 := fun x hx => by
  have ht := h.tell h3 h7
  have := ht.2.2.1 x hx
  have := h.1
  omega

attribute [local go_sem ↓] ldR_fold in
set_option maxRecDepth 10000 in
set_option maxHeartbeats 2000000 in
theorem arc1_any (l L : List Int) (bx B : Nat) (v : Value) (w : World) (hbx : w.cell? ⟨bx, 0, none⟩ = some v) (hv : FamV w B v L) (h3 : 3 ≤ l.length) (h7 : l.length ≤ 7) (hp : ∀ x ∈ l, 0 ≤ x ∧ x < 7) (hs : ∀ s ∈ L, s < 128) (hL : L.length ≤ 10) :
    Calls Try.prog 78 #[agp l, .pointer (some ⟨bx, 0, none⟩)] w fun e w' => e = .returned (.bool (decide (cntA l L < L.length))) ∧ Below w.heap.size w w' := by
  have hbw : bx < w.heap.size := World.block_lt_of_cell? w _ hbx
  have HK := Lib.hid (fun W => linked_any l W (by omega) h7 fun x hx => (hp x hx).1)
  have HPL := Lib.hid (fun (g : Nat → Nat) (D : Nat) (W : World) (h1 : Lnk W D g l) (h2 : FamV W B v L) => places_any l L D B g v W h1 h2 (by omega) h7 hp hs hL)
  have HFV := Lib.hid (fun (W : World) (hW : Below w.heap.size w W) => hv.below hW (Nat.le_refl _))
  have HBX := Lib.hid (fun (W : World) (hW : Below w.heap.size w W) => (hW.cell (p := ⟨bx, 0, none⟩) hbw).trans hbx)
  obtain ⟨A, c, rfl⟩ := hv.slice
  have H7 := padR_length l h7
  unfold agp at HK ⊢
  obtain ⟨n, hn⟩ : ∃ n, n = L.length := ⟨_, rfl⟩
  rw [← hn] at HPL HBX HFV ⊢
  generalize cntA l L = q at *
  clear h3 h7 hp hs hL hv hbx hn
  generalize padR l = P at *
  obtain ⟨p0, p1, p2, p3, p4, p5, p6, rfl⟩ := seven H7
  simp only [ints, List.map_cons, List.map_nil] at HK ⊢
  have A0 : Arr (w.alloc (.cells #[.int .i64 p0, .int .i64 p1, .int .i64 p2, .int .i64 p3, .int .i64 p4, .int .i64 p5, .int .i64 p6] 55)) w.heap.size [p0, p1, p2, p3, p4, p5, p6] := heap_alloc_new w _
  have HB0 := Lib.hid ((Below.refl w.heap.size w).alloc (Nat.le_refl _) (.cells #[.int .i64 p0, .int .i64 p1, .int .i64 p2, .int .i64 p3, .int .i64 p4, .int .i64 p5, .int .i64 p6] 55)).drew
  have l0 := ldR_run A0.drew rfl
  simp only [ints, List.map_cons, List.map_nil] at l0
  have c0 := HBX.out _ HB0.out
  have hs0 : (w.alloc (.cells #[.int .i64 p0, .int .i64 p1, .int .i64 p2, .int .i64 p3, .int .i64 p4, .int .i64 p5, .int .i64 p6] 55)).drew.heap.size = w.heap.size + 1 := by simp
  have HA0 := Lib.hid A0.drew
  clear A0 H7
  go_enter Try.func78, Try.ntmps78
  go_wp2_with fail
  go_region_held3 (fun V => (ldR ⟨w.heap.size, 0, none⟩).run Try.prog V = .ok (.agg #[.int .i64 p0, .int .i64 p1, .int .i64 p2, .int .i64 p3, .int .i64 p4, .int .i64 p5, .int .i64 p6]) V ∧ V.cell? ⟨bx, 0, none⟩ = some (.slice A n c))
    (first
      | exact ⟨lb, cb⟩
      | exact ⟨la, ca⟩
      | exact ⟨l0, c0⟩)
    (first
      | (go_at_call 62; refine HPA.out.mono ?_; rintro e wb ⟨rfl, hbb⟩
         have HBB := Lib.hid (HBA.out.trans (hbb.mono HBA.out.size))
         have cb := HBX.out _ HBB.out
         have lb := ldR_run (HAA.out.below hbb HAA.out.lt) rfl
         simp only [ints, List.map_cons, List.map_nil] at lb
         clear hbb)
      | (go_at_call 61; refine (HK.out _).mono ?_; rintro e wa ⟨ga, rfl, hla, hba⟩
         have HBA := Lib.hid (HB0.out.trans (hba.mono (by rw [hs0]; omega)))
         have HPA := Lib.hid (HPL.out ga _ wa hla (HFV.out wa HBA.out))
         have ca := HBX.out _ HBA.out
         have HAA := Lib.hid (HA0.out.below hba HA0.out.lt)
         have la := ldR_run HAA.out rfl
         simp only [ints, List.map_cons, List.map_nil] at la
         clear hla hba))
  all_goals
    go_wp2
    go_ret
    exact ⟨by first | rfl | simp, HBB.out⟩

theorem arcL_not (n : Nat) (L : List Int) : ((ringsL n).filter fun l => !(decide (cntA l L < L.length))) = arcL n L := by
  unfold arcL
  congr 1
  funext l
  rw [cnt_all, Bool.not_not]

set_option maxRecDepth 10000 in
set_option maxHeartbeats 1000000 in
theorem arcRings_any (n : Nat) (L : List Int) (B0 : Nat) (v : Value) (w : World) (hv : FamV w B0 v L) (h3 : 3 ≤ n) (h6 : n ≤ 6) (hs : ∀ s ∈ L, s < 128) (hL : L.length ≤ 10) :
    Calls Try.prog 54 #[.int .i64 (n : Int), v] w fun e w' => ∃ v', e = .returned v' ∧ RowN w' w.heap.size 55 7 v' (padM (arcL n L)) ∧ Below w.heap.size w w' := by
  obtain ⟨A, c, rfl⟩ := hv.slice
  obtain ⟨m, hm⟩ : ∃ m, m = L.length := ⟨_, rfl⟩
  obtain ⟨W, hW⟩ : ∃ W, W = w.alloc (.cells #[.slice A m c] 62) := ⟨_, rfl⟩
  have kb : Below w.heap.size w W := by rw [hW]; exact (Below.refl _ _).alloc (Nat.le_refl _) _
  have k2 : W.heap.size = w.heap.size + 1 := by rw [hW]; simp
  have k3 : W.cell? ⟨w.heap.size, 0, none⟩ = some (.slice A m c) := by rw [hW]; simp
  rw [← hm] at hv ⊢
  have k4 := hv.below kb (Nat.le_refl _)
  have HF : Hid (∀ V, Below W.heap.size W V → ∀ P ∈ padM (ringsL n), Calls Try.prog 78 #[.agg (ints P).toArray, .pointer (some ⟨w.heap.size, 0, none⟩)] V fun e w' => e = .returned (.bool (decide (cntA (unpad P) L < L.length))) ∧ Below V.heap.size V w') := fun V hV P hP => by
    simp only [padM, List.mem_map] at hP
    obtain ⟨l, hl, rfl⟩ := hP
    have hI := ringsL_is n h3 h6 l hl
    rw [unpad_pad l hI.2.1]
    exact arc1_any l L w.heap.size B0 _ V ((hV.cell (p := ⟨w.heap.size, 0, none⟩) (by simp; omega)).trans k3) (k4.below hV (Nat.le_refl _)) (by rw [hI.1]; exact h3) (by rw [hI.1]; omega) (isR_bd hI h3 (by omega)) hs hL
  have hpl : (padM (ringsL n)).length ≤ 1000 := by have := (facM_eq n h3 h6).2.1; simp [padM, ringsL_length]; omega
  have HPL := Lib.hid hpl
  have HR : Hid ((padM (ringsL n)).filter (fun P => !(decide (cntA (unpad P) L < L.length))) = padM (arcL n L)) := by
    rw [Hid, filter_pad (ringsL n) (fun l => !(decide (cntA l L < L.length))) (fun l hl => (ringsL_is n h3 h6 l hl).2.1), arcL_not]
  clear hv hs k3 k4 hpl hm hL
  have HB := Lib.hid kb
  have HSZ := Lib.hid k2
  have hBW : w.heap.size ≤ W.heap.size := by omega
  clear kb k2
  go_enter Try.func54, Try.ntmps54
  go_wp2_with fail
  rw [← hW]
  clear hW
  generalize hBB : w.heap.size = B at *
  have HBB := Lib.hid hBB
  clear hBB
  refine (allRings_any n W h3 h6).mono ?_
  rintro e w1 ⟨v1, rfl, hr1, hb1⟩
  have HR1 := Lib.hid hr1
  have HB1 := Lib.hid hb1
  have hs1 := hb1.size
  clear hr1 hb1
  go_wp2_with fail
  refine (deleteF_ring 78 (enters_fn Try.func78 (by decide) rfl) (.pointer (some ⟨B, 0, none⟩)) (fun P => decide (cntA (unpad P) L < L.length)) W.heap.size v1 _ w1 HR1.out hs1 HPL.out (fun V hV => HF.out V (HB1.out.trans hV))).mono ?_
  rintro e w2 ⟨v2, rfl, hr2, hb2⟩
  rw [HR.out] at hr2
  go_wp2
  go_ret
  exact ⟨_, rfl, by rw [HBB.out]; exact hr2.less hBW, by rw [HBB.out]; exact (HB.out.trans (HB1.out.mono hBW)).trans (hb2.mono hBW)⟩

theorem fam_nat {q : Int} {L : List Int} (ht : Fam q L) : ∃ k : Nat, q = k ∧ 3 ≤ k ∧ k ≤ 6 ∧ L.length ≤ 10 ∧ ∀ s ∈ L, 0 ≤ s ∧ s < 128 := by
  refine ⟨q.toNat, by have := ht.1; omega, by have := ht.1; omega, by have := ht.1; omega, ht.2.1, fun s hs => ?_⟩
  have h1 := ht.2.2 s hs
  simp only [okS, Bool.and_eq_true, decide_eq_true_eq] at h1
  have h2 := pow7 q.toNat (by have := ht.1; omega)
  have h3 := (Nat.pow_le_pow_right (by omega) (by have := ht.1; omega : q.toNat ≤ 7) : 2 ^ q.toNat ≤ 2 ^ 7)
  omega
def arR (q : Int) (L : List Int) : Int := if Fam q L then ((arcL q.toNat L).length : Nat) else 0
def afR (q : Int) (L : List Int) : List Int := if Fam q L then rowK (arcL q.toNat L) 0 else []
def afB (q : Int) (L : List Int) : Bool := if Fam q L then decide (0 < (arcL q.toNat L).length) else false
theorem afR_length (q : Int) (L : List Int) : (afR q L).length ≤ 7 := by
  unfold afR
  split
  · rename_i ht
    have h36 := ht.1
    rcases Nat.eq_zero_or_pos (arcL q.toNat L).length with h0 | h0
    · rw [List.eq_nil_of_length_eq_zero h0]; simp [rowK]
    · have := (arcL_is q.toNat L (by omega) (by omega) _ (rowK_mem h0)).1
      omega
  · simp

set_option maxHeartbeats 1000000 in
theorem arI_any (A : Option Addr) (m c H : Nat) (q : Int) (L : List Int) (w : World) (h : Rd w H A m L) (hH : H ≤ w.heap.size) (hm : m ≤ 1048576) (_ : m ≤ c) (_ : c ≤ 9223372036854775807) :
    Calls Try.prog 28 #[.int .i64 q, .slice A m c] w fun e w' => e = .returned (.tuple #[.int .i64 (arR q L), .bool (famB q L)]) ∧ Below w.heap.size w w' := by
  have HC := Lib.hid (readFam_any A m c H L q w h hH hm)
  by_cases ht : Fam q L
  · obtain ⟨k, rfl, h3, h6, h10, h128⟩ := fam_nat ht
    have HR : Hid (arR (k : Int) L = ((arcL k L).length : Nat)) := by rw [Hid, arR, if_pos ht, Int.toNat_natCast]
    have HG := Lib.hid (fun (B0 : Nat) (v : Value) (W : World) (hv : FamV W B0 v L) => arcRings_any k L B0 v W hv h3 h6 (fun s hs => (h128 s hs).2) h10)
    have hlen : Hid ((padM (arcL k L)).length = (arcL k L).length) := by simp [Hid, padM]
    rw [fam_yes ht] at HC ⊢
    rw [HR.out]
    clear h ht h3 h6 h10 h128
    go_enter Try.func28, Try.ntmps28
    go_wp2_with fail
    refine HC.out.mono ?_
    rintro e w1 ⟨v1, rfl, hf, _, hb1⟩
    have hf1 := hf (by simp)
    obtain ⟨A1, c1, rfl⟩ := hf1.slice
    have HG1 := Lib.hid (HG.out _ _ w1 hf1)
    clear hf hf1
    go_wp2_with fail
    refine HG1.out.mono ?_
    rintro e w2 ⟨v2, rfl, hr2, hb2⟩
    obtain ⟨A2, c2, rfl⟩ := hr2.slice
    rw [hlen.out]
    clear hr2
    go_wp2
    go_ret2
    exact ⟨rfl, hb1.trans (hb2.mono hb1.size)⟩
  · have HR : Hid (arR q L = 0) := by rw [Hid, arR, if_neg ht]
    rw [fam_no ht] at HC ⊢
    rw [HR.out]
    clear h ht
    go_enter Try.func28, Try.ntmps28
    go_wp2_with fail
    refine HC.out.mono ?_
    rintro e w1 ⟨v1, rfl, _, hn, hb1⟩
    obtain rfl := hn (by simp)
    go_wp2
    go_ret2
    exact ⟨rfl, hb1⟩

set_option maxHeartbeats 1000000 in
theorem afI_any (A : Option Addr) (m c H : Nat) (q : Int) (L : List Int) (w : World) (h : Rd w H A m L) (hH : H ≤ w.heap.size) (hm : m ≤ 1048576) (_ : m ≤ c) (_ : c ≤ 9223372036854775807) :
    Calls Try.prog 30 #[.int .i64 q, .slice A m c] w fun e w' => ∃ v, e = .returned (.tuple #[v, .bool (afB q L)]) ∧ OwnG w' w.heap.size v (afR q L) ∧ Below w.heap.size w w' := by
  have HC := Lib.hid (readFam_any A m c H L q w h hH hm)
  by_cases ht : Fam q L
  · obtain ⟨k, rfl, h3, h6, h10, h128⟩ := fam_nat ht
    have HR : Hid (afR (k : Int) L = rowK (arcL k L) 0 ∧ afB (k : Int) L = decide (0 < (arcL k L).length)) := ⟨by rw [afR, if_pos ht, Int.toNat_natCast], by rw [afB, if_pos ht, Int.toNat_natCast]⟩
    have HG := Lib.hid (fun (B0 : Nat) (v : Value) (W : World) (hv : FamV W B0 v L) => arcRings_any k L B0 v W hv h3 h6 (fun s hs => (h128 s hs).2) h10)
    have HF := Lib.hid (fun (v : Value) (C : Nat) (W : World) (hv : RowN W C 55 7 v (padM (arcL k L))) => firstList_any v C (arcL k L) W hv (by have := arcL_len k L h3 h6; omega) (fun l hl => by have := arcL_is k L h3 h6 l hl; exact ⟨by have := this.1; omega, by have := this.1; omega, this.2.1⟩))
    rw [fam_yes ht] at HC
    rw [HR.out.1, HR.out.2]
    clear h ht h3 h6 h10 h128
    go_enter Try.func30, Try.ntmps30
    go_wp2_with fail
    refine HC.out.mono ?_
    rintro e w1 ⟨v1, rfl, hf, _, hb1⟩
    have hf1 := hf (by simp)
    obtain ⟨A1, c1, rfl⟩ := hf1.slice
    have HG1 := Lib.hid (HG.out _ _ w1 hf1)
    clear hf hf1
    go_wp2_with fail
    refine HG1.out.mono ?_
    rintro e w2 ⟨v2, rfl, hr2, hb2⟩
    have HF2 := Lib.hid (HF.out v2 _ w2 hr2)
    have HB2 := Lib.hid (hb1.trans (hb2.mono hb1.size))
    obtain ⟨A2, c2, rfl⟩ := hr2.slice
    clear hr2
    go_wp2_with fail
    refine HF2.out.mono ?_
    rintro e w3 ⟨v3, rfl, ho3, hb3⟩
    have HB3 := Lib.hid (HB2.out.trans (hb3.mono HB2.out.size))
    have HO3 := Lib.hid (ownG_dn ho3 HB2.out.size)
    obtain ⟨A3, c3, ev⟩ := ho3.slice
    subst ev
    clear ho3 hb3
    go_wp2
    go_ret2
    exact ⟨_, rfl, HO3.out, HB3.out⟩
  · have HR : Hid (afR q L = [] ∧ afB q L = false) := ⟨by rw [afR, if_neg ht], by rw [afB, if_neg ht]⟩
    rw [fam_no ht] at HC
    rw [HR.out.1, HR.out.2]
    clear h ht
    go_enter Try.func30, Try.ntmps30
    go_wp2_with fail
    refine HC.out.mono ?_
    rintro e w1 ⟨v1, rfl, _, hn, hb1⟩
    obtain rfl := hn (by simp)
    go_wp2
    go_ret2
    exact ⟨.slice none 0 0, rfl, .inl ⟨rfl, rfl⟩, hb1⟩
end Go.Proofs.Ytknjioibmgkpmaa
