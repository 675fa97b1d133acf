/- The rings of families: how many, the first one, both ways round; the program and the model. -/
import Derived.Test.YtheoepbcejlncaaArF
import Derived.Test.YtheoepbcejlncaaDelF
import Derived.Test.YtheoepbcejlncaaFirst
import Derived.Deep.RegionHeld3
import Derived.Test.YtheoepbcejlncaaGrow
import Derived.Test.YtheoepbcejlncaaRw
import Derived.Test.YtheoepbcejlncaaArI
import Derived.Test.YtheoepbcejlncaaBack
namespace Go.Proofs.Ytheoepbcejlncaa
open Go.ChangeShapes Go.WideShapes Go.ChangeAt Go.RowKit

def isA7 (l : List Int) (s : Int) : Bool := decide (runN (hasN s.toNat) l = 1)
/-- How many of some sets are arcs. -/
def cntA (l L : List Int) : Nat := (L.filter (isA7 l)).length
def cntTo (l L : List Int) (k : Nat) : Nat := ((L.take k).filter (isA7 l)).length
theorem cntTo_step (l L : List Int) (k : Nat) (hk : k < L.length) : cntTo l L (k + 1) = cntTo l L k + if isA7 l (L.getD k 0) then 1 else 0 := by
  unfold cntTo
  rw [List.take_succ_eq_append_getElem hk, List.filter_append, List.length_append]
  have e : L.getD k 0 = L[k] := by simp [List.getD, hk]
  rw [e, List.filter_cons, List.filter_nil]
  congr 1
  cases isA7 l L[k] <;> rfl
theorem cntTo_len (l L : List Int) (k : Nat) : cntTo l L k ≤ k := by
  have := List.length_filter_le (isA7 l) (L.take k)
  simp at this
  unfold cntTo
  omega
theorem cntTo_full (l L : List Int) : cntTo l L L.length = cntA l L := by simp [cntTo, cntA]
theorem cnt_all (l L : List Int) : decide (cntA l L < L.length) = !L.all (isA7 l) := by
  have h1 := List.length_filter_le (isA7 l) L
  have h2 : (L.filter (isA7 l)).length = L.length ↔ ∀ a ∈ L, isA7 l a = true := List.length_filter_eq_length_iff
  unfold cntA
  cases h : L.all (isA7 l) with
  | true =>
    rw [List.all_eq_true] at h
    have := h2.2 h
    exact decide_eq_false (by omega)
  | false =>
    have : ¬ ∀ a ∈ L, isA7 l a = true := fun hh => by rw [List.all_eq_true.2 hh] at h; cases h
    have : (L.filter (isA7 l)).length ≠ L.length := fun e => this (h2.1 e)
    exact decide_eq_true (by omega)

theorem FamV.below {w w' : World} {B D : Nat} {v : Value} {L : List Int} (h : FamV w B v L) (hb : Below D w w') (hD : w.heap.size ≤ D) : FamV w' B v L := by
  obtain ⟨xs, h1, h2⟩ := h
  refine ⟨xs, ⟨h1.1, ?_⟩, fun k hk => ?_⟩
  · rcases h1.2 with e | ⟨g, cap, cur, e, hg, hh, rest⟩
    · exact .inl e
    · exact .inr ⟨g, cap, cur, e, hg, (hb.block g (Nat.lt_of_lt_of_le (Array.getElem?_eq_some_iff.1 hh).1 hD)).trans hh, rest⟩
  · obtain ⟨b, s, h3, h4, h5, h6⟩ := h2 k hk
    exact ⟨b, s, h3, h4, h5, h6.below hb (Nat.lt_of_lt_of_le h6.1 hD)⟩
theorem FamV.at_ {w : World} {B : Nat} {v : Value} {L : List Int} (h : FamV w B v L) {k : Nat} (hk : k < L.length) : ∃ g c b s : Nat, v = .slice (some ⟨g, 0, none⟩) L.length c ∧ w.cell? ⟨g, k, none⟩ = some (askV b) ∧ L.getD k 0 = (s : Int) ∧ SetC w b s := by
  obtain ⟨xs, h1, h2⟩ := h
  obtain ⟨b, s, h3, h4, h5, h6⟩ := h2 k hk
  rcases h1.2 with ⟨_, h0⟩ | ⟨g, cap, cur, rfl, _⟩
  · omega
  · exact ⟨g, cap, b, s, rfl, by rw [h1.cellAt k (by omega)]; exact h3, h5, h6⟩

set_option maxRecDepth 10000 in
set_option maxHeartbeats 1000000 in
theorem places_any (l L : List Int) (D B : Nat) (g : Nat → Nat) (v : Value) (w : World) (h : Lnk w D g l) (hv : FamV w B v L) (h2 : 2 ≤ l.length) (h7 : l.length ≤ 7) (hp : ∀ x ∈ l, 0 ≤ x ∧ x < 7) (hs : ∀ s ∈ L, s < 128) (hL : L.length ≤ 10) :
    Calls Try.prog 67 #[.pointer (some ⟨g 0, 0, none⟩), v] w fun e w' => e = .returned (.int .i64 (cntA l L : Int)) ∧ Below w.heap.size w w' := by
  have HLK := Lib.hid (fun (V : World) (hV : Below w.heap.size w V) => h.below hV (Nat.le_refl _))
  have HFV := Lib.hid (fun (V : World) (hV : Below w.heap.size w V) => hv.below hV (Nat.le_refl _))
  have HIA := Lib.hid (fun (s b : Nat) (V : World) (hV : Below w.heap.size w V) (hs : s < 128) (hc : SetC V b s) => isArc_any l s b D g V (h.below hV (Nat.le_refl _)) h2 h7 hp hs hc)
  have HSB := Lib.hid (fun k (hk : k < L.length) => hs _ (getD_mem L k hk))
  have HST := Lib.hid (fun k => cntTo_step l L k)
  have HCB := Lib.hid (fun k => cntTo_len l L k)
  have HFU := Lib.hid (cntTo_full l L)
  obtain ⟨A, c, rfl⟩ := hv.slice
  obtain ⟨R, hR⟩ : ∃ R : Nat → Nat, R = cntTo l L := ⟨_, rfl⟩
  have HIS : Hid (∀ s : Nat, isA7 l (s : Int) = decide (runN (hasN s) l = 1)) := fun s => by rw [isA7, Int.toNat_natCast]
  have HR0 : Hid (R 0 = 0) := by rw [hR]; rfl
  rw [← hR] at HST HCB HFU
  rw [← HFU.out]
  clear hR h hv hs
  obtain ⟨n, hn⟩ : ∃ n, n = L.length := ⟨_, rfl⟩
  have HN := Lib.hid hn
  rw [← hn] at HFV HSB HST HFU hL ⊢
  clear hn
  go_enter Try.func67, Try.ntmps67
  go_wp2
  go_loopw [5, 10] (fun v i wr => ∃ k : Nat, k ≤ n ∧ v = .int .i64 (R k : Int) ∧ i = .int .i64 k ∧ Hid (Below w.heap.size w wr)) (fun _ i _ => n - (intOf i).toNat)
  case atStart => exact ⟨0, Nat.zero_le _, by rw [HR0.out]; rfl, rfl, Below.refl _ _⟩
  case round =>
    obtain ⟨k, hk, rfl, rfl, hbl⟩ := hrel
    by_cases hlt : k < n
    · have hfv := HFV.out wr hbl.out
      rw [HN.out] at hfv
      obtain ⟨g', c', b, s, e, hc, hse, hsc⟩ := hfv.at_ (k := k) (by rw [← HN.out]; exact hlt)
      rw [← HN.out] at e
      injection e with e1 _ e3
      subst e1
      subst e3
      have hs1 := HSB.out k hlt
      have hst := HST.out k hlt
      rw [hse] at hs1 hst
      rw [HIS.out] at hst
      have HC := Lib.hid (HIA.out s b wr hbl.out (by omega) hsc)
      have hr1 := HCB.out k
      have hr2 := HCB.out (k + 1)
      obtain ⟨r1, hr⟩ : ∃ r1, r1 = R (k + 1) := ⟨_, rfl⟩
      have HR1 := Lib.hid hr
      rw [← hr] at hst hr2
      clear hr hfv hse hsc hs1
      generalize R k = r at *
      cases hx : decide (runN (hasN s) l = 1) with
      | true =>
        rw [hx] at hst HC
        rw [if_pos rfl] at hst
        have HS := Lib.hid hst
        clear hst hx
        go_wp2_with fail
        refine HC.out.mono ?_
        rintro e w2 ⟨rfl, hb2⟩
        have HB2 := Lib.hid (hbl.out.trans (hb2.mono hbl.out.size))
        clear hb2
        go_wp2
        go_roundw
        case rel => exact ⟨k + 1, by omega, by rw [← HR1.out, HS.out]; try go_num, by go_num, HB2⟩
        case measure => simp [intOf]; omega
      | false =>
        rw [hx] at hst HC
        rw [if_neg (by simp), Nat.add_zero] at hst
        have HS := Lib.hid hst
        clear hst hx
        go_wp2_with fail
        refine HC.out.mono ?_
        rintro e w2 ⟨rfl, hb2⟩
        have HB2 := Lib.hid (hbl.out.trans (hb2.mono hbl.out.size))
        clear hb2
        go_wp2
        go_roundw
        case rel => exact ⟨k + 1, by omega, by rw [← HR1.out, HS.out]; try go_num, by go_num, HB2⟩
        case measure => simp [intOf]; omega
    · obtain rfl : k = n := by omega
      go_wp2
      go_ret
      exact ⟨rfl, hbl.out⟩

/-- The rings of n points of which all of some sets are arcs. -/
def arcL (n : Nat) (L : List Int) : List (List Int) := (ringsL n).filter fun l => L.all (isA7 l)
theorem arcL_is (n : Nat) (L : List Int) (h3 : 3 ≤ n) (h6 : n ≤ 6) : ∀ l ∈ arcL n L, IsR n l := fun l hl => ringsL_is n h3 h6 l (List.mem_filter.1 hl).1
theorem arcL_len (n : Nat) (L : List Int) (h3 : 3 ≤ n) (h6 : n ≤ 6) : (arcL n L).length ≤ 720 := by
  have h1 := List.length_filter_le (fun l => L.all (isA7 l)) (ringsL n)
  rw [ringsL_length] at h1
  have := (facM_eq n h3 h6).2.1
  unfold arcL; omega
theorem isR_bd {n : Nat} {l : List Int} (h : IsR n l) (h3 : 3 ≤ n) (h7 : n ≤ 7) : ∀ x ∈ l, 0 ≤ x ∧ x < 7 := fun x hx => by
  have ht := h.tell h3 h7
  have := ht.2.2.1 x hx
  have := h.1
  omega

attribute [local go_sem ↓] ldR_fold in
set_option maxRecDepth 10000 in
set_option maxHeartbeats 2000000 in
theorem arc1_any (l L : List Int) (bx B : Nat) (v : Value) (w : World) (hbx : w.cell? ⟨bx, 0, none⟩ = some v) (hv : FamV w B v L) (h3 : 3 ≤ l.length) (h7 : l.length ≤ 7) (hp : ∀ x ∈ l, 0 ≤ x ∧ x < 7) (hs : ∀ s ∈ L, s < 128) (hL : L.length ≤ 10) :
    Calls Try.prog 91 #[agp l, .pointer (some ⟨bx, 0, none⟩)] w fun e w' => e = .returned (.bool (decide (cntA l L < L.length))) ∧ Below w.heap.size w w' := by
  have hbw : bx < w.heap.size := World.block_lt_of_cell? w _ hbx
  have HK := Lib.hid (fun W => linked_any l W (by omega) h7 fun x hx => (hp x hx).1)
  have HPL := Lib.hid (fun (g : Nat → Nat) (D : Nat) (W : World) (h1 : Lnk W D g l) (h2 : FamV W B v L) => places_any l L D B g v W h1 h2 (by omega) h7 hp hs hL)
  have HFV := Lib.hid (fun (W : World) (hW : Below w.heap.size w W) => hv.below hW (Nat.le_refl _))
  have HBX := Lib.hid (fun (W : World) (hW : Below w.heap.size w W) => (hW.cell (p := ⟨bx, 0, none⟩) hbw).trans hbx)
  obtain ⟨A, c, rfl⟩ := hv.slice
  have H7 := padR_length l h7
  unfold agp at HK ⊢
  obtain ⟨n, hn⟩ : ∃ n, n = L.length := ⟨_, rfl⟩
  rw [← hn] at HPL HBX HFV ⊢
  generalize cntA l L = q at *
  clear h3 h7 hp hs hL hv hbx hn
  generalize padR l = P at *
  obtain ⟨p0, p1, p2, p3, p4, p5, p6, rfl⟩ := seven H7
  simp only [ints, List.map_cons, List.map_nil] at HK ⊢
  have A0 : Arr (w.alloc (.cells #[.int .i64 p0, .int .i64 p1, .int .i64 p2, .int .i64 p3, .int .i64 p4, .int .i64 p5, .int .i64 p6] 54)) w.heap.size [p0, p1, p2, p3, p4, p5, p6] := heap_alloc_new w _
  have HB0 := Lib.hid ((Below.refl w.heap.size w).alloc (Nat.le_refl _) (.cells #[.int .i64 p0, .int .i64 p1, .int .i64 p2, .int .i64 p3, .int .i64 p4, .int .i64 p5, .int .i64 p6] 54)).drew
  have l0 := ldR_run A0.drew rfl
  simp only [ints, List.map_cons, List.map_nil] at l0
  have c0 := HBX.out _ HB0.out
  have hs0 : (w.alloc (.cells #[.int .i64 p0, .int .i64 p1, .int .i64 p2, .int .i64 p3, .int .i64 p4, .int .i64 p5, .int .i64 p6] 54)).drew.heap.size = w.heap.size + 1 := by simp
  have HA0 := Lib.hid A0.drew
  clear A0 H7
  go_enter Try.func91, Try.ntmps91
  go_wp2_with fail
  go_region_held3 (fun V => (ldR ⟨w.heap.size, 0, none⟩).run Try.prog V = .ok (.agg #[.int .i64 p0, .int .i64 p1, .int .i64 p2, .int .i64 p3, .int .i64 p4, .int .i64 p5, .int .i64 p6]) V ∧ V.cell? ⟨bx, 0, none⟩ = some (.slice A n c))
    (first
      | exact ⟨lb, cb⟩
      | exact ⟨la, ca⟩
      | exact ⟨l0, c0⟩)
    (first
      | (go_at_call 67; refine HPA.out.mono ?_; rintro e wb ⟨rfl, hbb⟩
         have HBB := Lib.hid (HBA.out.trans (hbb.mono HBA.out.size))
         have cb := HBX.out _ HBB.out
         have lb := ldR_run (HAA.out.below hbb HAA.out.lt) rfl
         simp only [ints, List.map_cons, List.map_nil] at lb
         clear hbb)
      | (go_at_call 66; refine (HK.out _).mono ?_; rintro e wa ⟨ga, rfl, hla, hba⟩
         have HBA := Lib.hid (HB0.out.trans (hba.mono (by rw [hs0]; omega)))
         have HPA := Lib.hid (HPL.out ga _ wa hla (HFV.out wa HBA.out))
         have ca := HBX.out _ HBA.out
         have HAA := Lib.hid (HA0.out.below hba HA0.out.lt)
         have la := ldR_run HAA.out rfl
         simp only [ints, List.map_cons, List.map_nil] at la
         clear hla hba))
  all_goals
    go_wp2
    go_ret
    exact ⟨by first | rfl | simp, HBB.out⟩

theorem arcL_not (n : Nat) (L : List Int) : ((ringsL n).filter fun l => !(decide (cntA l L < L.length))) = arcL n L := by
  unfold arcL
  congr 1
  funext l
  rw [cnt_all, Bool.not_not]

set_option maxRecDepth 10000 in
set_option maxHeartbeats 1000000 in
theorem arcRings_any (n : Nat) (L : List Int) (B0 : Nat) (v : Value) (w : World) (hv : FamV w B0 v L) (h3 : 3 ≤ n) (h6 : n ≤ 6) (hs : ∀ s ∈ L, s < 128) (hL : L.length ≤ 10) :
    Calls Try.prog 59 #[.int .i64 (n : Int), v] w fun e w' => ∃ v', e = .returned v' ∧ RowN w' w.heap.size 54 7 v' (padM (arcL n L)) ∧ Below w.heap.size w w' := by
  obtain ⟨A, c, rfl⟩ := hv.slice
  obtain ⟨m, hm⟩ : ∃ m, m = L.length := ⟨_, rfl⟩
  obtain ⟨W, hW⟩ : ∃ W, W = w.alloc (.cells #[.slice A m c] 64) := ⟨_, rfl⟩
  have kb : Below w.heap.size w W := by rw [hW]; exact (Below.refl _ _).alloc (Nat.le_refl _) _
  have k2 : W.heap.size = w.heap.size + 1 := by rw [hW]; simp
  have k3 : W.cell? ⟨w.heap.size, 0, none⟩ = some (.slice A m c) := by rw [hW]; simp
  rw [← hm] at hv ⊢
  have k4 := hv.below kb (Nat.le_refl _)
  have HF : Hid (∀ V, Below W.heap.size W V → ∀ P ∈ padM (ringsL n), Calls Try.prog 91 #[.agg (ints P).toArray, .pointer (some ⟨w.heap.size, 0, none⟩)] V fun e w' => e = .returned (.bool (decide (cntA (unpad P) L < L.length))) ∧ Below V.heap.size V w') := fun V hV P hP => by
    simp only [padM, List.mem_map] at hP
    obtain ⟨l, hl, rfl⟩ := hP
    have hI := ringsL_is n h3 h6 l hl
    rw [unpad_pad l hI.2.1]
    exact arc1_any l L w.heap.size B0 _ V ((hV.cell (p := ⟨w.heap.size, 0, none⟩) (by simp; omega)).trans k3) (k4.below hV (Nat.le_refl _)) (by rw [hI.1]; exact h3) (by rw [hI.1]; omega) (isR_bd hI h3 (by omega)) hs hL
  have hpl : (padM (ringsL n)).length ≤ 1000 := by have := (facM_eq n h3 h6).2.1; simp [padM, ringsL_length]; omega
  have HPL := Lib.hid hpl
  have HR : Hid ((padM (ringsL n)).filter (fun P => !(decide (cntA (unpad P) L < L.length))) = padM (arcL n L)) := by
    rw [Hid, filter_pad (ringsL n) (fun l => !(decide (cntA l L < L.length))) (fun l hl => (ringsL_is n h3 h6 l hl).2.1), arcL_not]
  clear hv hs k3 k4 hpl hm hL
  have HB := Lib.hid kb
  have HSZ := Lib.hid k2
  have hBW : w.heap.size ≤ W.heap.size := by omega
  clear kb k2
  go_enter Try.func59, Try.ntmps59
  go_wp2_with fail
  rw [← hW]
  clear hW
  generalize hBB : w.heap.size = B at *
  have HBB := Lib.hid hBB
  clear hBB
  refine (allRings_any n W h3 h6).mono ?_
  rintro e w1 ⟨v1, rfl, hr1, hb1⟩
  have HR1 := Lib.hid hr1
  have HB1 := Lib.hid hb1
  have hs1 := hb1.size
  clear hr1 hb1
  go_wp2_with fail
  refine (deleteF_ring 91 (enters_fn Try.func91 (by decide) rfl) (.pointer (some ⟨B, 0, none⟩)) (fun P => decide (cntA (unpad P) L < L.length)) W.heap.size v1 _ w1 HR1.out hs1 HPL.out (fun V hV => HF.out V (HB1.out.trans hV))).mono ?_
  rintro e w2 ⟨v2, rfl, hr2, hb2⟩
  rw [HR.out] at hr2
  go_wp2
  go_ret
  exact ⟨_, rfl, by rw [HBB.out]; exact hr2.less hBW, by rw [HBB.out]; exact (HB.out.trans (HB1.out.mono hBW)).trans (hb2.mono hBW)⟩

theorem fam_nat {q : Int} {L : List Int} (ht : Fam q L) : ∃ k : Nat, q = k ∧ 3 ≤ k ∧ k ≤ 6 ∧ L.length ≤ 10 ∧ ∀ s ∈ L, 0 ≤ s ∧ s < 128 := by
  refine ⟨q.toNat, by have := ht.1; omega, by have := ht.1; omega, by have := ht.1; omega, ht.2.1, fun s hs => ?_⟩
  have h1 := ht.2.2 s hs
  simp only [okS, Bool.and_eq_true, decide_eq_true_eq] at h1
  have h2 := pow7 q.toNat (by have := ht.1; omega)
  have h3 := (Nat.pow_le_pow_right (by omega) (by have := ht.1; omega : q.toNat ≤ 7) : 2 ^ q.toNat ≤ 2 ^ 7)
  omega
def arR (q : Int) (L : List Int) : Int := if Fam q L then ((arcL q.toNat L).length : Nat) else 0
def afR (q : Int) (L : List Int) : List Int := if Fam q L then rowK (arcL q.toNat L) 0 else []
def afB (q : Int) (L : List Int) : Bool := if Fam q L then decide (0 < (arcL q.toNat L).length) else false
theorem afR_length (q : Int) (L : List Int) : (afR q L).length ≤ 7 := by
  unfold afR
  split
  · rename_i ht
    have h36 := ht.1
    rcases Nat.eq_zero_or_pos (arcL q.toNat L).length with h0 | h0
    · rw [List.eq_nil_of_length_eq_zero h0]; simp [rowK]
    · have := (arcL_is q.toNat L (by omega) (by omega) _ (rowK_mem h0)).1
      omega
  · simp

set_option maxHeartbeats 1000000 in
theorem arI_any (A : Option Addr) (m c H : Nat) (q : Int) (L : List Int) (w : World) (h : Rd w H A m L) (hH : H ≤ w.heap.size) (hm : m ≤ 1048576) (_ : m ≤ c) (_ : c ≤ 9223372036854775807) :
    Calls Try.prog 25 #[.int .i64 q, .slice A m c] w fun e w' => e = .returned (.tuple #[.int .i64 (arR q L), .bool (famB q L)]) ∧ Below w.heap.size w w' := by
  have HC := Lib.hid (readFam_any A m c H L q w h hH hm)
  by_cases ht : Fam q L
  · obtain ⟨k, rfl, h3, h6, h10, h128⟩ := fam_nat ht
    have HR : Hid (arR (k : Int) L = ((arcL k L).length : Nat)) := by rw [Hid, arR, if_pos ht, Int.toNat_natCast]
    have HG := Lib.hid (fun (B0 : Nat) (v : Value) (W : World) (hv : FamV W B0 v L) => arcRings_any k L B0 v W hv h3 h6 (fun s hs => (h128 s hs).2) h10)
    have hlen : Hid ((padM (arcL k L)).length = (arcL k L).length) := by simp [Hid, padM]
    rw [fam_yes ht] at HC ⊢
    rw [HR.out]
    clear h ht h3 h6 h10 h128
    go_enter Try.func25, Try.ntmps25
    go_wp2_with fail
    refine HC.out.mono ?_
    rintro e w1 ⟨v1, rfl, hf, _, hb1⟩
    have hf1 := hf (by simp)
    obtain ⟨A1, c1, rfl⟩ := hf1.slice
    have HG1 := Lib.hid (HG.out _ _ w1 hf1)
    clear hf hf1
    go_wp2_with fail
    refine HG1.out.mono ?_
    rintro e w2 ⟨v2, rfl, hr2, hb2⟩
    obtain ⟨A2, c2, rfl⟩ := hr2.slice
    rw [hlen.out]
    clear hr2
    go_wp2
    go_ret2
    exact ⟨rfl, hb1.trans (hb2.mono hb1.size)⟩
  · have HR : Hid (arR q L = 0) := by rw [Hid, arR, if_neg ht]
    rw [fam_no ht] at HC ⊢
    rw [HR.out]
    clear h ht
    go_enter Try.func25, Try.ntmps25
    go_wp2_with fail
    refine HC.out.mono ?_
    rintro e w1 ⟨v1, rfl, _, hn, hb1⟩
    obtain rfl := hn (by simp)
    go_wp2
    go_ret2
    exact ⟨rfl, hb1⟩

set_option maxHeartbeats 1000000 in
theorem afI_any (A : Option Addr) (m c H : Nat) (q : Int) (L : List Int) (w : World) (h : Rd w H A m L) (hH : H ≤ w.heap.size) (hm : m ≤ 1048576) (_ : m ≤ c) (_ : c ≤ 9223372036854775807) :
    Calls Try.prog 27 #[.int .i64 q, .slice A m c] w fun e w' => ∃ v, e = .returned (.tuple #[v, .bool (afB q L)]) ∧ OwnG w' w.heap.size v (afR q L) ∧ Below w.heap.size w w' := by
  have HC := Lib.hid (readFam_any A m c H L q w h hH hm)
  by_cases ht : Fam q L
  · obtain ⟨k, rfl, h3, h6, h10, h128⟩ := fam_nat ht
    have HR : Hid (afR (k : Int) L = rowK (arcL k L) 0 ∧ afB (k : Int) L = decide (0 < (arcL k L).length)) := ⟨by rw [afR, if_pos ht, Int.toNat_natCast], by rw [afB, if_pos ht, Int.toNat_natCast]⟩
    have HG := Lib.hid (fun (B0 : Nat) (v : Value) (W : World) (hv : FamV W B0 v L) => arcRings_any k L B0 v W hv h3 h6 (fun s hs => (h128 s hs).2) h10)
    have HF := Lib.hid (fun (v : Value) (C : Nat) (W : World) (hv : RowN W C 54 7 v (padM (arcL k L))) => firstList_any v C (arcL k L) W hv (by have := arcL_len k L h3 h6; omega) (fun l hl => by have := arcL_is k L h3 h6 l hl; exact ⟨by have := this.1; omega, by have := this.1; omega, this.2.1⟩))
    rw [fam_yes ht] at HC
    rw [HR.out.1, HR.out.2]
    clear h ht h3 h6 h10 h128
    go_enter Try.func27, Try.ntmps27
    go_wp2_with fail
    refine HC.out.mono ?_
    rintro e w1 ⟨v1, rfl, hf, _, hb1⟩
    have hf1 := hf (by simp)
    obtain ⟨A1, c1, rfl⟩ := hf1.slice
    have HG1 := Lib.hid (HG.out _ _ w1 hf1)
    clear hf hf1
    go_wp2_with fail
    refine HG1.out.mono ?_
    rintro e w2 ⟨v2, rfl, hr2, hb2⟩
    have HF2 := Lib.hid (HF.out v2 _ w2 hr2)
    have HB2 := Lib.hid (hb1.trans (hb2.mono hb1.size))
    obtain ⟨A2, c2, rfl⟩ := hr2.slice
    clear hr2
    go_wp2_with fail
    refine HF2.out.mono ?_
    rintro e w3 ⟨v3, rfl, ho3, hb3⟩
    have HB3 := Lib.hid (HB2.out.trans (hb3.mono HB2.out.size))
    have HO3 := Lib.hid (ownG_dn ho3 HB2.out.size)
    obtain ⟨A3, c3, ev⟩ := ho3.slice
    subst ev
    clear ho3 hb3
    go_wp2
    go_ret2
    exact ⟨_, rfl, HO3.out, HB3.out⟩
  · have HR : Hid (afR q L = [] ∧ afB q L = false) := ⟨by rw [afR, if_neg ht], by rw [afB, if_neg ht]⟩
    rw [fam_no ht] at HC
    rw [HR.out.1, HR.out.2]
    clear h ht
    go_enter Try.func27, Try.ntmps27
    go_wp2_with fail
    refine HC.out.mono ?_
    rintro e w1 ⟨v1, rfl, _, hn, hb1⟩
    obtain rfl := hn (by simp)
    go_wp2
    go_ret2
    exact ⟨.slice none 0 0, rfl, .inl ⟨rfl, rfl⟩, hb1⟩
end Go.Proofs.Ytheoepbcejlncaa

namespace Go.Proofs.Ytheoepbcejlncaa
open Go.ChangeShapes Go.WideShapes Go.ChangeAt Go.RowKit

def allT (l L : List Int) (k : Nat) : Bool := (L.take k).all (isA7 l)
theorem allT_step (l L : List Int) (k : Nat) (hk : k < L.length) : allT l L (k + 1) = (allT l L k && isA7 l (L.getD k 0)) := by
  unfold allT
  rw [List.take_succ_eq_append_getElem hk, List.all_append]
  simp [List.getD, hk]
theorem allT_full (l L : List Int) : allT l L L.length = L.all (isA7 l) := by simp [allT]
def arcTo (n : Nat) (L : List Int) (k : Nat) : List (List Int) := ((List.range k).map fun j : Nat => byL n (j : Int)).filter fun l => L.all (isA7 l)
theorem arcTo_full (n : Nat) (L : List Int) : arcTo n L (facM n) = arcL n L := rfl
theorem arcTo_len (n : Nat) (L : List Int) (k : Nat) : (arcTo n L k).length ≤ k := by
  have h1 := List.length_filter_le (fun l => L.all (isA7 l)) ((List.range k).map fun j : Nat => byL n (j : Int))
  simp only [List.length_map, List.length_range] at h1
  exact h1
theorem arcTo_yes (n : Nat) (L : List Int) (k : Nat) (h : L.all (isA7 (byL n k)) = true) : arcTo n L k ++ [byL n k] = arcTo n L (k + 1) := by
  unfold arcTo
  rw [List.range_succ, List.map_append, List.filter_append]
  congr 1
  simp only [List.map_cons, List.map_nil, List.filter_cons, List.filter_nil]
  rw [if_pos h]
theorem arcTo_no (n : Nat) (L : List Int) (k : Nat) (h : L.all (isA7 (byL n k)) = false) : arcTo n L k = arcTo n L (k + 1) := by
  unfold arcTo
  rw [List.range_succ, List.map_append, List.filter_append]
  simp only [List.map_cons, List.map_nil, List.filter_cons, List.filter_nil]
  rw [if_neg (by rw [h]; simp)]
  simp
theorem GrowS.row7 {w : World} {B : Nat} {v : Value} {L : List (List Int)} (h : GrowS w B v L) {k : Nat} (hk : k < L.length) : ∃ g c A d, v = .slice (some ⟨g, 0, none⟩) L.length c ∧ w.cell? ⟨g, k, none⟩ = some (.slice A (rowK L k).length d) ∧ RowV w B (.slice A (rowK L k).length d) (rowK L k) := by
  obtain ⟨xs, h1, h2⟩ := h
  obtain ⟨vk, h3, h4⟩ := h2 k hk
  obtain ⟨A, d, rfl, _⟩ := h4.2
  rcases h1.2 with ⟨_, h0⟩ | ⟨g, cap, cur, rfl, hB, hg, hc, hm, hs, ht⟩
  · omega
  · refine ⟨g, cap, A, d, rfl, ?_, h4⟩
    rw [cell_of_row w g _ cur _ _ hg]
    rw [← ht, List.getElem?_take, if_pos (by omega)] at h3
    simpa using h3

set_option maxRecDepth 10000 in
set_option maxHeartbeats 2000000 in
theorem l7Rings_any (A' : Option Addr) (m d H' : Nat) (n : Nat) (L : List Int) (w : World) (h' : Rd w H' A' m L) (hH : H' ≤ w.heap.size) (h3 : 3 ≤ n) (h6 : n ≤ 6) (hm : m ≤ 10) (hs : ∀ s ∈ L, 0 ≤ s ∧ s < 128) :
    Calls Try.prog 60 #[.int .i64 (n : Int), .slice A' m d] w fun e w' => ∃ v, e = .returned v ∧ GrowS w' w.heap.size v (arcL n L) ∧ Below w.heap.size w w' := by
  obtain ⟨i0, hi, hz0, hz1, hz2⟩ := info_parts row_info
  obtain ⟨hf1, hf2, hf3, hf4⟩ := facM_eq n h3 h6
  have HL := Lib.hid h'.len
  have HSB := Lib.hid (fun k (hk : k < m) => hs _ (getD_mem L k (by rw [HL.out]; exact hk)))
  have hg0 : Hid (GrowS (w.alloc (.cells #[] 23)) w.heap.size (.slice (some ⟨w.heap.size, 0, none⟩) 0 0) []) := GrowS.empty w (Nat.le_refl _)
  have hb0 : Below w.heap.size w (w.alloc (.cells #[] 23)) := (Below.refl _ _).alloc (Nat.le_refl _) _
  have hr0 := Lib.hid (h'.below (hb0.mono hH))
  have HFM := Lib.hid hf1
  obtain ⟨N, hN⟩ : ∃ N, N = facM n := ⟨_, rfl⟩
  rw [← hN] at HFM hf2
  have HN := Lib.hid hN
  have hfk : ∀ k : Nat, k < N → (k : Int) < facN (n - 1) := fun k hk => by rw [← HFM.out]; omega
  have HFACT := Lib.hid (fun W => facS_nat (n - 1) ((n : Int) - 1) W (by omega) (by omega))
  rw [← HFM.out] at HFACT
  have HBY := Lib.hid (fun k (hk : k < N) W => byS_any n (k : Int) W h3 (by omega) (by omega) (hfk k hk))
  have HIS := Lib.hid (fun k (hk : k < N) => byL_is n k h3 h6 (by rw [← hN]; exact hk))
  clear hs h' hf1 hf3 hf4 hN hfk
  go_enter Try.func60, Try.ntmps60
  go_wp2
  generalize w.alloc (.cells #[] 23) = W0 at *
  have hBw0 := hb0.size
  generalize hB : w.heap.size = B at *
  have HB := Lib.hid hB
  clear hB
  go_loopw [5, 6] (fun v i wr => ∃ k : Nat, k ≤ N ∧ i = .int .i64 k ∧ Hid (GrowS wr B v (arcTo n L k)) ∧ Hid (Rd wr H' A' m L) ∧ Below B w wr) (fun _ i _ => N - (intOf i).toNat)
  case atStart => exact ⟨0, Nat.zero_le _, rfl, by simpa [arcTo, Hid] using hg0, hr0, hb0⟩
  case round =>
    obtain ⟨k, hk, rfl, hgs, hrd, hbl⟩ := hrel
    clear hg0 hr0 hb0
    have HBL := Lib.hid hbl
    have hBw : B ≤ wr.heap.size := by rw [← HB.out]; exact hbl.size
    clear hbl
    by_cases hlt : k < N
    · have HS := Lib.hid (HBY.out k hlt)
      have hI := HIS.out k hlt
      have hlen : (byL n (k : Int)).length = n := hI.1
      go_wp2_with fail
      refine (HFACT.out _).mono ?_
      rintro e w' ⟨rfl, rfl⟩
      go_wp2_with fail
      refine (HS.out _).mono ?_
      rintro e w2 ⟨vr, rfl, ho, hb2⟩
      obtain ⟨Ar, cr, rfl⟩ := ho.slice
      have HG2 := Lib.hid (hgs.out.below hb2 (Nat.le_refl _))
      have HR2 := Lib.hid (hrd.out.below (hb2.mono (by omega)))
      have HRV := Lib.hid (ho.rowV5.less hBw)
      have HBL2 := Lib.hid (HBL.out.trans (hb2.mono hBw))
      have hs2 := hb2.size
      have HYES := Lib.hid (arcTo_yes n L k)
      have HNO := Lib.hid (arcTo_no n L k)
      have hkl := arcTo_len n L k
      have HRD : Hid (Rd w2 w2.heap.size Ar n (byL n (k : Int))) := by have := ho.rd.2; rw [hlen] at this; exact this
      have hbd := isR_bd hI h3 (by omega)
      have HRUN := Lib.hid (fun (W : World) (s : Nat) (hs : s < 128) (H : Nat) (hW : Rd W H Ar n (byL n (k : Int))) => runS_any Ar n cr H (byL n (k : Int)) s W hW (by omega) (by omega) hbd hs)
      rw [hlen] at HRV ⊢
      clear ho hb2 hI hgs hrd hlen hbd
      obtain ⟨a, ha⟩ : ∃ a, a = byL n (k : Int) := ⟨_, rfl⟩
      rw [← ha] at HRV HRD HRUN HYES HNO
      clear ha
      have hBw2 : B ≤ w2.heap.size := by omega
      generalize hE : w2.heap.size = E at *
      have HE := Lib.hid hE
      clear hE
      have HRD0 := Lib.hid HRD.out
      clear HRD HS HBY HIS
      have hkb : k ≤ 720 := by omega
      generalize arcTo n L k = M at *
      obtain ⟨M', hM'⟩ : ∃ M', M' = arcTo n L (k + 1) := ⟨_, rfl⟩
      rw [← hM'] at HYES HNO
      have HM' := Lib.hid hM'
      clear hM'
      have HI7 : Hid (∀ s : Nat, isA7 a (s : Int) = ((runN (hasN s) a : Int) == 1)) := fun s => by rw [isA7, Int.toNat_natCast, Bool.eq_iff_iff, decide_eq_true_iff, beq_iff_eq]; omega
      go_wp2
      go_loop [8, 9] (fun okv i => ∃ j : Nat, j ≤ m ∧ i = .int .i64 j ∧ okv = .bool (allT a L j)) (fun _ i => m - (intOf i).toNat)
      case atStart => exact ⟨0, Nat.zero_le _, rfl, by simp [allT]⟩
      case round =>
        obtain ⟨j, hj, rfl, rfl⟩ := hrel
        by_cases hlj : j < m
        · have hjl : j < L.length := by rw [HL.out]; exact hlj
          obtain ⟨b, o, rfl, hbB, hcs⟩ := HR2.out.at_ (by omega)
          have hc := hcs j hlj
          have HST := Lib.hid (allT_step a L j hjl)
          have hsb := HSB.out j hlj
          clear hcs
          generalize L.getD j 0 = x at *
          obtain ⟨s, rfl⟩ : ∃ s : Nat, x = (s : Int) := ⟨x.toNat, by omega⟩
          have HC := Lib.hid (HRUN.out w2 s (by omega) E HRD0.out)
          have hrr := HI7.out s
          generalize isA7 a (s : Int) = q1 at *
          generalize runN (hasN s) a = z at *
          cases hok : allT a L j with
          | false =>
            rw [hok] at HST
            clear HC hok hrr
            go_wp2
            go_round
            case rel => exact ⟨j + 1, by omega, by go_num, by rw [HST.out]; rfl⟩
            case measure => simp [intOf]; omega
          | true =>
            rw [hok, Bool.true_and] at HST
            rw [hrr] at HST
            clear hok hrr
            go_wp2_with (go_at_call 46; refine HC.out.mono ?_; rintro e w5 ⟨rfl, rfl⟩)
            go_round
            case rel => exact ⟨j + 1, by omega, by go_num, by rw [HST.out]⟩
            case measure => simp [intOf]; omega
        · obtain rfl : j = m := by omega
          have HAL : Hid (allT a L j = L.all (isA7 a)) := by rw [Hid, ← HL.out]; exact allT_full a L
          rw [HAL.out]
          cases hall : L.all (isA7 a) with
          | true =>
            have HST := Lib.hid (HYES.out hall)
            clear HYES HNO hall HAL HRUN HI7
            obtain ⟨xs, hx1, hx2⟩ := HG2.out
            have HX1 := Lib.hid hx1
            have HX2 := Lib.hid hx2
            have hMb : M.length ≤ 720 := by omega
            have hEB : B ≤ w2.heap.size := by rw [HE.out]; exact hBw2
            clear hx1 hx2
            go_wp2_with (at_builtin; refine wpList_append_own _ rfl _ _ 70 rfl B 23 i0 (.slice none 0 0) 1 24 Try.underlying70 hi hz0 hz1 hz2 rfl (by decide) _ _ _ rfl (HX1.out.alloc _) ⟨_, 0, none⟩ 1 1 [.slice Ar n cr] rfl rfl (one_cell w2 _ _) (by simp [Value.oneCell']) (by unfold maxLen; omega) (by omega) (by simp; omega) ?_)
            intro v' w5 hown5 hgr5 _
            have HG5 := Lib.hid (grow_row rfl HX1.out HX2.out HRV.out _ hown5 hgr5)
            rw [HST.out] at HG5
            have HB5 := Lib.hid ((HBL2.out.alloc hEB _).grown hgr5 (by simp; omega) (fun i hi => (HX1.out.lt i hi).1))
            have HR5 := Lib.hid (HR2.out.below (((Below.refl H' w2).alloc (by omega) _).grown hgr5 (by simp; omega) (fun i hi => by have := (HX1.out.lt i hi).1; omega)))
            clear hown5 hgr5
            go_wp2
            go_roundw
            case rel => exact ⟨k + 1, by omega, by go_num, by rw [← HM'.out]; exact HG5, HR5, HB5.out⟩
            case measure => simp [intOf]; omega
          | false =>
            have HST := Lib.hid (HNO.out hall)
            clear HYES HNO hall HAL HRUN HI7
            rw [HST.out] at HG2
            go_wp2
            go_roundw
            case rel => exact ⟨k + 1, by omega, by go_num, by rw [← HM'.out]; exact HG2, HR2, HBL2.out⟩
            case measure => simp [intOf]; omega
    · obtain rfl : k = N := by omega
      go_wp2_with fail
      refine (HFACT.out _).mono ?_
      rintro e w' ⟨rfl, rfl⟩
      rw [HN.out, arcTo_full] at hgs
      go_wp2
      go_ret
      exact ⟨_, rfl, by rw [HB.out]; exact hgs.out, by rw [HB.out]; exact HBL.out⟩
end Go.Proofs.Ytheoepbcejlncaa

namespace Go.Proofs.Ytheoepbcejlncaa
open Go.ChangeShapes Go.WideShapes Go.ChangeAt Go.RowKit

set_option maxHeartbeats 1000000 in
theorem arS_any (A : Option Addr) (n c H : Nat) (q : Int) (L : List Int) (w : World) (h : Rd w H A n L) (hH : H ≤ w.heap.size) (hn : n ≤ 1048576) :
    Calls Try.prog 26 #[.int .i64 q, .slice A n c] w fun e w' => e = .returned (.tuple #[.int .i64 (arR q L), .bool (famB q L)]) ∧ Below w.heap.size w w' := by
  have hl := h.len
  have HC := Lib.hid (famS_any A n c H L q w h hn)
  by_cases ht : Fam q L
  · obtain ⟨k, rfl, h3, h6, h10, h128⟩ := fam_nat ht
    have HTY := Lib.hid (fam_yes ht)
    have HG := Lib.hid (fun p => l7Rings_any A n c H k L (w.drewN p) (h.drewN p) hH h3 h6 (by rw [← hl]; exact h10) h128)
    have HR : Hid (arR (k : Int) L = ((arcL k L).length : Nat)) := by rw [Hid, arR, if_pos ht, Int.toNat_natCast]
    rw [fam_yes ht] at HC
    rw [HR.out, HTY.out]
    clear h hl ht
    go_enter Try.func26, Try.ntmps26
    go_wp2_with fail
    refine HC.out.mono ?_
    rintro e w1 ⟨rfl, p, rfl⟩
    go_wp2_with fail
    refine (HG.out p).mono ?_
    rintro e w2 ⟨v, rfl, hg2, hb2⟩
    obtain ⟨A2, c2, rfl, _⟩ := hg2.slice
    clear hg2
    go_wp2
    go_ret2
    exact ⟨rfl, (below_drewN (Below.refl _ _) p).trans hb2⟩
  · have HTY := Lib.hid (fam_no ht)
    have HR : Hid (arR q L = 0) := by rw [Hid, arR, if_neg ht]
    rw [fam_no ht] at HC
    rw [HR.out, HTY.out]
    clear h hl ht
    go_enter Try.func26, Try.ntmps26
    go_wp2_with (go_at_call 23; refine HC.out.mono ?_; rintro e w1 ⟨rfl, p, rfl⟩)
    go_ret2
    exact ⟨rfl, below_drewN (Below.refl _ _) p⟩

set_option maxHeartbeats 1000000 in
theorem afS_any (A : Option Addr) (n c H : Nat) (q : Int) (L : List Int) (w : World) (h : Rd w H A n L) (hH : H ≤ w.heap.size) (hn : n ≤ 1048576) :
    Calls Try.prog 29 #[.int .i64 q, .slice A n c] w fun e w' => ∃ v, e = .returned (.tuple #[v, .bool (afB q L)]) ∧ OwnG w' w.heap.size v (afR q L) ∧ Below w.heap.size w w' := by
  have hl := h.len
  have HC := Lib.hid (famS_any A n c H L q w h hn)
  by_cases ht : Fam q L
  · obtain ⟨k, rfl, h3, h6, h10, h128⟩ := fam_nat ht
    have HG := Lib.hid (fun p => l7Rings_any A n c H k L (w.drewN p) (h.drewN p) hH h3 h6 (by rw [← hl]; exact h10) h128)
    have HR : Hid (afR (k : Int) L = rowK (arcL k L) 0 ∧ afB (k : Int) L = decide (0 < (arcL k L).length)) := ⟨by rw [afR, if_pos ht, Int.toNat_natCast], by rw [afB, if_pos ht, Int.toNat_natCast]⟩
    rw [fam_yes ht] at HC
    rw [HR.out.1, HR.out.2]
    clear h hl ht
    go_enter Try.func29, Try.ntmps29
    go_wp2_with fail
    refine HC.out.mono ?_
    rintro e w1 ⟨rfl, p, rfl⟩
    go_wp2_with fail
    refine (HG.out p).mono ?_
    rintro e w2 ⟨v, rfl, hg2, hb2⟩
    have HB2 := Lib.hid ((below_drewN (Below.refl _ _) p).trans hb2)
    by_cases h0 : 0 < (arcL k L).length
    · obtain ⟨g, c', A', d', rfl, hc, hrow⟩ := hg2.row7 h0
      have HD : Hid (decide (0 < (arcL k L).length) = true) := by simpa [Hid] using h0
      have HROW := Lib.hid hrow.1
      obtain ⟨z, hz⟩ : ∃ z, z = (arcL k L).length := ⟨_, rfl⟩
      rw [← hz] at h0 ⊢
      clear hg2 hrow hb2 HG HC HR hz
      have he' : ((z : Int) == 0) = false := by simp; omega
      go_wp2
      go_ret2
      exact ⟨.slice A' (rowK (arcL k L) 0).length d', by rw [HD.out]; rfl, HROW.out, HB2.out⟩
    · have hz : (arcL k L).length = 0 := by omega
      have HD : Hid (decide (0 < (arcL k L).length) = false) := by simpa [Hid] using h0
      have HE : Hid (rowK (arcL k L) 0 = []) := by rw [List.eq_nil_of_length_eq_zero hz]; rfl
      obtain ⟨A', d', rfl, _⟩ := hg2.slice
      rw [hz]
      clear hg2 hb2 HG HC HR hz
      go_wp2_with fail
      refine (none_any _).mono ?_
      rintro e w3 ⟨v3, rfl, ho3, hb3⟩
      go_wp2
      go_ret2
      exact ⟨v3, by rw [HD.out]; rfl, by rw [HE.out]; exact (own_less ho3 HB2.out.size).gen, HB2.out.trans (hb3.mono HB2.out.size)⟩
  · have HR : Hid (afR q L = [] ∧ afB q L = false) := ⟨by rw [afR, if_neg ht], by rw [afB, if_neg ht]⟩
    rw [fam_no ht] at HC
    rw [HR.out.1, HR.out.2]
    clear h hl ht
    go_enter Try.func29, Try.ntmps29
    go_wp2_with fail
    refine HC.out.mono ?_
    rintro e w1 ⟨rfl, p, rfl⟩
    go_wp2_with fail
    refine (none_any _).mono ?_
    rintro e w3 ⟨v3, rfl, ho3, hb3⟩
    go_wp2
    go_ret2
    exact ⟨_, rfl, ho3.gen, (below_drewN (Below.refl _ _) p).trans hb3⟩

end Go.Proofs.Ytheoepbcejlncaa

namespace Go.Proofs.Ytheoepbcejlncaa
open Go.ChangeShapes Go.WideShapes Go.ChangeAt Go.RowKit

section
variable {w : World} {A : Option Addr} {n c : Nat} {L : List Int}
theorem cI_ArcFamily (h : Rw w A n c L) (x : Int) : Calls Try.prog 22 #[.int .i64 x, .slice A n c] w fun e w' => e = .returned (.bool (famB x L)) ∧ Below w.heap.size w w' :=
  famI_any A n c w.heap.size x L w h.rd (Nat.le_refl _) h.big h.2.1 h.2.2.1
theorem cS_ArcFamily (h : Rw w A n c L) (x : Int) : Calls Try.prog 23 #[.int .i64 x, .slice A n c] w fun e w' => e = .returned (.bool (famB x L)) ∧ Below w.heap.size w w' :=
  famS_law A n c w.heap.size x L w h.rd (Nat.le_refl _) h.big
theorem Rw.tail {b o : Nat} (h : Rw w (some ⟨b, o, none⟩) n c L) (hn : 0 < n) : Rw w (some ⟨b, o + 1, none⟩) (n - 1) (c - 1) (L.drop 1) := by
  have hl := h.len
  obtain ⟨h1, h2, h3, h4⟩ := h
  refine ⟨⟨by rw [List.length_drop, hl], fun hn1 => ?_⟩, by omega, by omega, by omega⟩
  obtain ⟨b', o', e, hb, hc⟩ := h1.at_ hn
  injection e with e
  injection e with e1 e2 _
  subst e1; subst e2
  refine ⟨b, o + 1, rfl, hb, fun k hk => ?_⟩
  have := hc (k + 1) (by omega)
  rw [show o + 1 + k = o + (k + 1) by omega, this]
  simp [List.getD]
end
theorem Rw.none0 (w : World) (A : Option Addr) : Rw w A 0 0 [] := ⟨⟨rfl, fun h => absurd h (by omega)⟩, by omega, by omega, by omega⟩
/-- What sets leave, of all points G. -/
def compL (G : Int) (L : List Int) : List Int := L.map fun s => G - s
theorem compL_snoc (G : Int) (L : List Int) (k : Nat) (hk : k < L.length) : compL G (L.take k) ++ [G - L.getD k 0] = compL G (L.take (k + 1)) := by
  unfold compL
  rw [List.take_succ_eq_append_getElem hk, List.map_append]
  simp [List.getD, hk]
theorem fam_told {x : Int} {L : List Int} (h : famB x L = true) : ∃ (z : Nat) (G : Int), x = (z : Int) ∧ ((z = 3 ∧ G = 7) ∨ (z = 4 ∧ G = 15) ∨ (z = 5 ∧ G = 31) ∨ (z = 6 ∧ G = 63)) ∧ (∀ s ∈ L, 1 ≤ s ∧ s ≤ G - 1) ∧ 7 ≤ G ∧ G ≤ 63 ∧ famB x (compL G L) = true ∧ famB x (L.drop 1) = true ∧ L.length ≤ 10 := by
  have hf : Fam x L := of_decide_eq_true h
  obtain ⟨h36, h10, hs⟩ := hf
  obtain ⟨z, rfl⟩ : ∃ z : Nat, x = (z : Int) := ⟨x.toNat, by omega⟩
  rw [Int.toNat_natCast] at hs
  have hz : ∃ G : Int, ((z = 3 ∧ G = 7) ∨ (z = 4 ∧ G = 15) ∨ (z = 5 ∧ G = 31) ∨ (z = 6 ∧ G = 63)) ∧ G = 2 ^ z - 1 := by
    have hz' : z = 3 ∨ z = 4 ∨ z = 5 ∨ z = 6 := by omega
    obtain rfl | rfl | rfl | rfl := hz'
    · exact ⟨7, by omega, by decide⟩
    · exact ⟨15, by omega, by decide⟩
    · exact ⟨31, by omega, by decide⟩
    · exact ⟨63, by omega, by decide⟩
  obtain ⟨G, hG, e2⟩ := hz
  have hb : ∀ s ∈ L, 1 ≤ s ∧ s ≤ G - 1 := fun s hm => by
    have := hs s hm
    simp only [okS, Bool.and_eq_true, decide_eq_true_eq] at this
    omega
  refine ⟨z, G, rfl, hG, hb, by omega, by omega, ?_, ?_, h10⟩
  · refine fam_yes ⟨h36, by rw [compL, List.length_map]; exact h10, fun s hm => ?_⟩
    simp only [compL, List.mem_map] at hm
    obtain ⟨t, ht, rfl⟩ := hm
    have := hb t ht
    rw [Int.toNat_natCast, okS]
    simp only [Bool.and_eq_true, decide_eq_true_eq]
    omega
  · refine fam_yes ⟨h36, by rw [List.length_drop]; omega, fun s hm => ?_⟩
    rw [Int.toNat_natCast]
    exact hs s (List.mem_of_mem_drop hm)
end Go.Proofs.Ytheoepbcejlncaa

namespace Go.Proofs.Ytheoepbcejlncaa
open Go.ChangeShapes Go.WideShapes Go.ChangeAt Go.RowKit

def cntB (n s : Nat) : Nat := ((List.range n).filter (begB n s)).length
theorem runN_bits (p : Int → Bool) (l : List Int) : runN p l = cntB l.length (bitsL p l) := by
  rw [runN, runP, List.length_map, cntB, filter_range_congr fun i hi => (begs_bits p l i hi).1]
theorem comp_key : ∀ n : Fin 8, ∀ s : Fin 128, s.val < 2 ^ n.val → cntB n.val (2 ^ n.val - 1 - s.val) = cntB n.val s.val ∧ 2 * cntB n.val s.val ≤ n.val := by decide +kernel
theorem comp_cnt (n s : Nat) (h7 : n ≤ 7) (hs : s < 2 ^ n) : cntB n (2 ^ n - 1 - s) = cntB n s ∧ 2 * cntB n s ≤ n :=
  comp_key ⟨n, by omega⟩ ⟨s, Nat.lt_of_lt_of_le hs (Nat.pow_le_pow_right (by omega) h7 : 2 ^ n ≤ 2 ^ 7)⟩ hs
theorem bits_comp (p q : Int → Bool) : ∀ l : List Int, (∀ x ∈ l, q x = !p x) → bitsL q l = 2 ^ l.length - 1 - bitsL p l
  | [], _ => rfl
  | x :: l, h => by
    have ih := bits_comp p q l fun y hy => h y (by simp [hy])
    have hx := h x (by simp)
    have hlt := bitsL_lt p l
    have hlt2 := bitsL_lt p (x :: l)
    simp only [bitsL, List.length_cons, Nat.pow_succ, hx, ih] at hlt2 ⊢
    cases p x <;> simp_all <;> omega
theorem has_comp (n s : Nat) (hs : s < 2 ^ n) (x : Int) (h0 : 0 ≤ x) (hx : x < n) : hasN (2 ^ n - 1 - s) x = !hasN s x := by
  unfold hasN
  rw [show 2 ^ n - 1 - s = 2 ^ n - (s + 1) by omega, Nat.testBit_two_pow_sub_succ hs]
  have : x.toNat < n := by omega
  simp [this]
/-- What a set leaves comes apart as often. -/
theorem run_comp {l : List Int} (hr : Ring l) {s : Nat} (hs : s < 2 ^ l.length) : runN (hasN (2 ^ l.length - 1 - s)) l = runN (hasN s) l ∧ 2 * runN (hasN s) l ≤ l.length := by
  have h7 := hr.1.2.1
  rw [runN_bits, runN_bits, bits_comp (hasN s) _ l fun x hx => has_comp l.length s hs x (hr.1.2.2.1 x hx).1 (hr.1.2.2.1 x hx).2]
  exact comp_cnt _ _ h7 (bitsL_lt _ _)
theorem set_comp {l : List Int} {s : Nat} (h : SetL l (s : Int)) : s < 2 ^ l.length ∧ SetL l ((2 ^ l.length - 1 - s : Nat) : Int) ∧ ((2 ^ l.length - 1 - s : Nat) : Int) = ((2 ^ l.length : Nat) : Int) - 1 - (s : Int) := by
  obtain ⟨k, e, hk, _⟩ := h.nat
  have : k = s := by omega
  subst this
  have hp := Nat.pos_of_ne_zero (show 2 ^ l.length ≠ 0 by simp)
  have e2 : ((2 ^ l.length : Nat) : Int) = (2 : Int) ^ l.length := by simp
  refine ⟨hk, ⟨h.1, by omega, by omega⟩, by omega⟩

/-- The places of a ring gone round the other way. -/
def backS (n s : Nat) : Nat := (List.range n).foldr (fun i t => (if s.testBit ((n - i) % n) then 2 ^ i else 0) + t) 0
theorem back_key : ∀ n : Fin 8, ∀ s : Fin 128, s.val < 2 ^ n.val → cntB n.val (backS n.val s.val) = cntB n.val s.val ∧ backS n.val s.val < 2 ^ n.val := by decide +kernel
theorem backS_bit_key : ∀ n : Fin 8, ∀ s : Fin 128, s.val < 2 ^ n.val → ∀ i : Fin 7, i.val < n.val → (backS n.val s.val).testBit i.val = s.val.testBit ((n.val - i.val) % n.val) := by decide +kernel
theorem run_back {l : List Int} (h7 : l.length ≤ 7) (p : Int → Bool) : runN p (backL l) = runN p l := by
  have hlt := bitsL_lt p l
  have h128 : bitsL p l < 128 := Nat.lt_of_lt_of_le hlt (Nat.pow_le_pow_right (by omega) h7 : 2 ^ l.length ≤ 2 ^ 7)
  obtain ⟨k1, k2⟩ := back_key ⟨l.length, by omega⟩ ⟨bitsL p l, h128⟩ hlt
  have e : bitsL p (backL l) = backS l.length (bitsL p l) := by
    apply Nat.eq_of_testBit_eq
    intro i
    rcases Nat.lt_or_ge i l.length with hi | hi
    · rw [bitsL_bit p _ i (by rw [backL_length]; exact hi), backL_get l i hi, backS_bit_key ⟨l.length, by omega⟩ ⟨bitsL p l, h128⟩ hlt ⟨i, by omega⟩ hi]
      exact (bitsL_bit p l _ (Nat.mod_lt _ (by omega))).symm
    · have h1 := bitsL_lt p (backL l)
      rw [backL_length] at h1
      rw [Nat.testBit_lt_two_pow (Nat.lt_of_lt_of_le h1 (Nat.pow_le_pow_right (by omega) hi)), Nat.testBit_lt_two_pow (Nat.lt_of_lt_of_le k2 (Nat.pow_le_pow_right (by omega) hi))]
  rw [runN_bits, runN_bits, backL_length, e]
  exact k1
end Go.Proofs.Ytheoepbcejlncaa

namespace Go.Proofs.Ytheoepbcejlncaa
open Go.ChangeShapes Go.WideShapes Go.ChangeAt Go.RowKit

theorem even_inv {α : Type} [DecidableEq α] (f : α → α) : ∀ (m : Nat) (M : List α), M.length ≤ m → M.Nodup → (∀ x ∈ M, f x ∈ M) → (∀ x ∈ M, f x ≠ x) → (∀ x ∈ M, f (f x) = x) → M.length % 2 = 0
  | _, [], _, _, _, _, _ => rfl
  | 0, a :: t, hl, _, _, _, _ => by simp at hl
  | m + 1, a :: t, hl, hnd, hc, hne, hinv => by
    obtain ⟨hat, hnt⟩ := List.nodup_cons.1 hnd
    have hb : f a ∈ t := by
      rcases List.mem_cons.1 (hc a (by simp)) with h | h
      · exact absurd h (hne a (by simp))
      · exact h
    have hlen : (t.erase (f a)).length = t.length - 1 := List.length_erase_of_mem hb
    have hpos := List.length_pos_of_mem hb
    have ih := even_inv f m (t.erase (f a)) (by simp at hl; omega) (hnt.erase _) (fun x hx => ?_) (fun x hx => hne x (by simp [List.mem_of_mem_erase hx])) (fun x hx => hinv x (by simp [List.mem_of_mem_erase hx]))
    · simp only [List.length_cons]; omega
    · have hx2 := (hnt.mem_erase_iff).1 hx
      have hxm : x ∈ a :: t := by simp [hx2.2]
      have h1 : f x ≠ a := fun e => hx2.1 (by rw [← hinv x hxm, e])
      have h2 : f x ≠ f a := fun e => hat (by
        have e2 : x = a := by rw [← hinv x hxm, e, hinv a (by simp)]
        rw [← e2]; exact hx2.2)
      rcases List.mem_cons.1 (hc x hxm) with h | h
      · exact absurd h h1
      · exact (hnt.mem_erase_iff).2 ⟨h2, h⟩
theorem pairs_key1 : ∀ n : Fin 7, 3 ≤ n.val → (ringsL n.val).Nodup := by decide +kernel
theorem pairs_key2 : ∀ n : Fin 7, 3 ≤ n.val → (ringsL n.val).all (fun l => (ringsL n.val).contains (backL l) && backL l != l && backL (backL l) == l) = true := by decide +kernel
theorem arc_even (n : Nat) (L : List Int) (h3 : 3 ≤ n) (h6 : n ≤ 6) : (arcL n L).length % 2 = 0 := by
  have k1 := pairs_key1 ⟨n, by omega⟩ h3
  have k2 := pairs_key2 ⟨n, by omega⟩ h3
  simp only [List.all_eq_true, Bool.and_eq_true, List.contains_iff_mem, bne_iff_ne, beq_iff_eq] at k2
  refine even_inv backL _ _ (Nat.le_refl _) (List.Pairwise.filter _ k1) (fun x hx => ?_) (fun x hx => (k2 x (List.mem_filter.1 hx).1).1.2) (fun x hx => (k2 x (List.mem_filter.1 hx).1).2)
  obtain ⟨h1, h2⟩ := List.mem_filter.1 hx
  refine List.mem_filter.2 ⟨(k2 x h1).1.1, ?_⟩
  have hI := ringsL_is n h3 h6 x h1
  rw [List.all_eq_true] at h2 ⊢
  intro s hs
  have := h2 s hs
  rw [isA7] at this ⊢
  rw [run_back (by rw [hI.1]; omega)]
  exact this
theorem arcL_ring {n : Nat} {l : List Int} (h3 : 3 ≤ n) (h6 : n ≤ 6) (h1 : l ∈ ringsL n) : Ring l := by
  simp only [ringsL, List.mem_map, List.mem_range] at h1
  obtain ⟨k, hk, rfl⟩ := h1
  have hI := byL_is n k h3 h6 hk
  have hf := (facM_eq n h3 h6).1
  refine ⟨hI.tell h3 (by omega), ?_⟩
  rw [byL_eq n k (by omega) (by omega) (by omega) (by omega)]
  rfl
theorem arcL_comp (n : Nat) (G : Int) (L : List Int) (h3 : 3 ≤ n) (h6 : n ≤ 6) (hG : G = 2 ^ n - 1) (hs : ∀ s ∈ L, 1 ≤ s ∧ s ≤ G - 1) : arcL n (compL G L) = arcL n L := by
  unfold arcL
  refine List.filter_congr fun l hl => ?_
  have hr := arcL_ring h3 h6 hl
  have hI := ringsL_is n h3 h6 l hl
  rw [compL, List.all_map, Bool.eq_iff_iff, List.all_eq_true, List.all_eq_true]
  have key : ∀ s ∈ L, isA7 l (G - s) = isA7 l s := fun s hm => by
    have hb := hs s hm
    have e2 : ((2 ^ n : Nat) : Int) = (2 : Int) ^ n := by simp
    obtain ⟨k, rfl⟩ : ∃ k : Nat, s = (k : Int) := ⟨s.toNat, by omega⟩
    have e : (G - (k : Int)).toNat = 2 ^ l.length - 1 - k := by rw [hI.1]; omega
    rw [isA7, isA7, e, Int.toNat_natCast, (run_comp hr (by rw [hI.1]; omega)).1]
  exact ⟨fun h s hm => by rw [← key s hm]; exact h s hm, fun h s hm => by rw [Function.comp, key s hm]; exact h s hm⟩
theorem rings_told {x : Int} {L : List Int} (h : famB x L = true) : ∃ (z : Nat) (G : Int) (r : Nat), x = (z : Int) ∧ ((z = 3 ∧ G = 7) ∨ (z = 4 ∧ G = 15) ∨ (z = 5 ∧ G = 31) ∨ (z = 6 ∧ G = 63)) ∧ (∀ s ∈ L, 1 ≤ s ∧ s ≤ G - 1) ∧ 7 ≤ G ∧ G ≤ 63 ∧ famB x (compL G L) = true ∧ arR x L = (r : Int) ∧ arR x (compL G L) = (r : Int) ∧ r % 2 = 0 ∧ afB x L = decide (0 < r) ∧ r ≤ 720 := by
  obtain ⟨z, G, rfl, hzG, hs, h7, h63, hcomp, _, _⟩ := fam_told h
  have h3 : 3 ≤ z := by omega
  have h6 : z ≤ 6 := by omega
  have ht : Fam (z : Int) L := of_decide_eq_true h
  have ht2 : Fam (z : Int) (compL G L) := of_decide_eq_true hcomp
  have hG : G = 2 ^ z - 1 := by
    obtain ⟨rfl, rfl⟩ | ⟨rfl, rfl⟩ | ⟨rfl, rfl⟩ | ⟨rfl, rfl⟩ := hzG
    all_goals decide
  refine ⟨z, G, (arcL z L).length, rfl, hzG, hs, h7, h63, hcomp, by rw [arR, if_pos ht, Int.toNat_natCast], by rw [arR, if_pos ht2, Int.toNat_natCast, arcL_comp z G L h3 h6 hG hs], arc_even z L h3 h6, by rw [afB, if_pos ht, Int.toNat_natCast], arcL_len z L h3 h6⟩
section
variable {w : World} {A : Option Addr} {n c : Nat} {L : List Int}
theorem cI_ArcRingsV (h : Rw w A n c L) (x : Int) : Calls Try.prog 25 #[.int .i64 x, .slice A n c] w fun e w' => e = .returned (.tuple #[.int .i64 (arR x L), .bool (famB x L)]) ∧ Below w.heap.size w w' :=
  arI_any A n c w.heap.size x L w h.rd (Nat.le_refl _) h.big h.2.1 h.2.2.1
theorem cS_ArcRingsV (h : Rw w A n c L) (x : Int) : Calls Try.prog 26 #[.int .i64 x, .slice A n c] w fun e w' => e = .returned (.tuple #[.int .i64 (arR x L), .bool (famB x L)]) ∧ Below w.heap.size w w' :=
  arS_any A n c w.heap.size x L w h.rd (Nat.le_refl _) h.big
theorem cI_ArcFirstV (h : Rw w A n c L) (x : Int) : Calls Try.prog 27 #[.int .i64 x, .slice A n c] w fun e w' => ∃ v, e = .returned (.tuple #[v, .bool (afB x L)]) ∧ NewG w' v (afR x L) ∧ Below w.heap.size w w' :=
  (afI_any A n c w.heap.size x L w h.rd (Nat.le_refl _) h.big h.2.1 h.2.2.1).mono fun _ _ ⟨v, e1, ho, hb⟩ => ⟨v, e1, ho.newG (afR_length x L), hb⟩
end
end Go.Proofs.Ytheoepbcejlncaa
