/- Several texts as one: Has3 Cnt Rings Agree Shared InT BackT3 First RingT. -/
import Derived.Test.YtamnacgclhaggaaPE
import Derived.Test.YtamnacgclhaggaaPR
import Derived.Deep.RegionHeld3
import Derived.Test.YtamnacgclhaggaaMA
import Derived.Deep.RegionHeldLaw
import Derived.Deep.AppendLies
namespace Go.Proofs.Ytamnacgclhaggaa
open Go.ChangeShapes Go.WideShapes Go.ChangeAt Go.RowKit

def has3 (l t : List Int) : Bool := decide (stepsI l (t.getD 0 0) (t.getD 1 0) < stepsI l (t.getD 0 0) (t.getD 2 0))

set_option maxHeartbeats 1000000 in
theorem l2Has_any (A : Option Addr) (n c H : Nat) (l : List Int) (A' : Option Addr) (c' H' : Nat) (x y z : Int) (w : World) (h : Rd w H A n l) (h' : Rd w H' A' 3 [x, y, z]) (h1 : 1 ≤ n) (hn : n ≤ 7) (hx : x ∈ l) (hy : y ∈ l) (hz : z ∈ l) :
    Calls Try.prog 47 #[.slice A n c, .slice A' 3 c'] w fun e w' => e = .returned (.bool (has3 l [x, y, z])) ∧ ∃ q, w' = w.drewN q := by
  have HY := Lib.hid (fun W (hW : Rd W H A n l) => (st_any A n c H l x y W hW h1 hn hx hy).mono (fun e w' (hh : e = .returned (.int .i64 (stepsI l x y)) ∧ W = w') => (⟨hh.1, hh.2.symm⟩ : e = .returned (.int .i64 (stepsI l x y)) ∧ w' = W)))
  have HZ := Lib.hid (fun W (hW : Rd W H A n l) => (st_any A n c H l x z W hW h1 hn hx hz).mono (fun e w' (hh : e = .returned (.int .i64 (stepsI l x z)) ∧ W = w') => (⟨hh.1, hh.2.symm⟩ : e = .returned (.int .i64 (stepsI l x z)) ∧ w' = W)))
  obtain ⟨b, o, rfl, _, c0, c1, c2⟩ := rd3 h'
  have HR := Lib.hid (fun q => h.drewN q)
  have hr : has3 l [x, y, z] = decide (stepsI l x y < stepsI l x z) := rfl
  rw [hr]
  clear hx hy hz h h' hr
  generalize stepsI l x y = s at *
  generalize stepsI l x z = t at *
  go_enter Try.func47, Try.ntmps47
  go_wp2
  go_quiet (first
    | (go_at_call_of 75 (Value.int IntKind.i64 y); refine Calls.quiet_of_same (HY.out _ (HR.out _)))
    | (go_at_call_of 75 (Value.int IntKind.i64 z); refine Calls.quiet_of_same (HZ.out _ (HR.out _))))
  go_wp2
  go_ret
  exact ⟨rfl, nq, rfl⟩

set_option maxRecDepth 10000 in
set_option maxHeartbeats 2000000 in
theorem hasThree_any (l : List Int) (x y z : Int) (w : World) (h1 : 1 ≤ l.length) (hl : l.length ≤ 7) (hp : ∀ x ∈ l, 0 ≤ x) (hx : x ∈ l) (hy : y ∈ l) (hz : z ∈ l) :
    Calls Try.prog 49 #[agp l, .agg (ints [x, y, z]).toArray] w fun e w' => e = .returned (.bool (has3 l [x, y, z])) ∧ Below w.heap.size w w' := by
  obtain ⟨a0, a1, a2, a3, a4, a5, a6, hP⟩ := seven (padR_length l hl)
  have HY := fun W => Lib.hid (steps_any l x y W h1 hl hp hx hy)
  have HZ := fun W => Lib.hid (steps_any l x z W h1 hl hp hx hz)
  have hr : has3 l [x, y, z] = decide (stepsI l x y < stepsI l x z) := rfl
  rw [hr]
  unfold agp at HY HZ ⊢
  rw [hP] at HY HZ ⊢
  simp only [ints, List.map_cons, List.map_nil] at HY HZ ⊢
  have HYY := Lib.hid HY
  have HZZ := Lib.hid HZ
  clear hP hp HY HZ hx hy hz hr
  generalize stepsI l x y = s at *
  generalize stepsI l x z = t at *
  obtain ⟨W0, hW0⟩ : ∃ W, W = w.alloc (.cells (ints [a0, a1, a2, a3, a4, a5, a6]).toArray 53) := ⟨_, rfl⟩
  obtain ⟨W, hW⟩ : ∃ W, W = W0.alloc (.cells (ints [x, y, z]).toArray 63) := ⟨_, rfl⟩
  have k1 : Arr W0 w.heap.size [a0, a1, a2, a3, a4, a5, a6] := by rw [hW0]; exact heap_alloc_new w _
  have k0 : W0.heap.size = w.heap.size + 1 := by rw [hW0]; simp
  have k2 : Arr W w.heap.size [a0, a1, a2, a3, a4, a5, a6] := by rw [hW]; exact k1.alloc _
  have k3 : Tri W (w.heap.size + 1) [x, y, z] := by rw [hW, ← k0]; exact Blk.new W0 _
  have k5 : W.heap.size = w.heap.size + 2 := by rw [hW]; simp [k0]
  have kb : Below w.heap.size w W := by rw [hW, hW0]; exact ((Below.refl _ _).alloc (Nat.le_refl _) _).alloc (by simp) _
  have HB := Lib.hid kb
  have HK := Lib.hid (fun (V : World) (hV : Below (w.heap.size + 2) W V) => (⟨cells7 (k2.below hV (by omega)), (k3.below hV (by omega)).cell (i := 0) (by simp), (k3.below hV (by omega)).cell (i := 1) (by simp), (k3.below hV (by omega)).cell (i := 2) (by simp)⟩ : _ ∧ _ ∧ _ ∧ _))
  simp only [ints, List.map_cons, List.map_nil] at hW0 hW
  go_enter Try.func49, Try.ntmps49
  go_wp2
  rw [← hW0, ← hW]
  clear hW0 hW k1 k0 k2 k3 kb
  have HSZ := Lib.hid k5
  have hBW : w.heap.size + 2 ≤ W.heap.size := by omega
  clear k5
  generalize hB : w.heap.size = B at *
  have HBB := Lib.hid hB
  clear hB
  have HST := Lib.hid (fun (V V' : World) (h1 : Below (B + 2) W V) (h2 : Below V.heap.size V V') => h1.trans (h2.mono (by have := h1.size; omega)))
  go_region_held3 (fun V => ((V.cell? ⟨B, 0, none⟩ = some (.int .i64 a0) ∧ V.cell? ⟨B, 1, none⟩ = some (.int .i64 a1) ∧ V.cell? ⟨B, 2, none⟩ = some (.int .i64 a2) ∧ V.cell? ⟨B, 3, none⟩ = some (.int .i64 a3) ∧ V.cell? ⟨B, 4, none⟩ = some (.int .i64 a4) ∧ V.cell? ⟨B, 5, none⟩ = some (.int .i64 a5) ∧ V.cell? ⟨B, 6, none⟩ = some (.int .i64 a6)) ∧ V.cell? ⟨B + 1, 0, none⟩ = some (.int .i64 x) ∧ V.cell? ⟨B + 1, 1, none⟩ = some (.int .i64 y) ∧ V.cell? ⟨B + 1, 2, none⟩ = some (.int .i64 z)))
    (first
      | exact HK.out _ (Below.refl _ _).drew
      | exact HK.out _ HB1.out
      | exact HK.out _ HB2.out
      | exact HK.out _ HB3.out
      | exact HK.out _ HB4.out)
    (first
      | (go_at_call_of 99 (Value.int IntKind.i64 y); refine ((HYY.out _).out).mono ?_; rintro e w5 ⟨rfl, hb⟩; first | (have HB4 := Lib.hid (HST.out _ _ HB3.out hb); clear hb) | (have HB1 := Lib.hid (HST.out _ _ (Below.refl _ W).drew hb); clear hb))
      | (go_at_call_of 99 (Value.int IntKind.i64 z); refine ((HZZ.out _).out).mono ?_; rintro e w6 ⟨rfl, hb⟩; first | (have HB2 := Lib.hid (HST.out _ _ HB1.out hb); clear hb) | (have HB3 := Lib.hid (HST.out _ _ (Below.refl _ W).drew hb); clear hb)))
  all_goals
    go_wp2
    go_ret
    exact ⟨rfl, by rw [HBB.out]; exact HB.out.trans (by first | exact HB2.out.mono (by omega) | exact HB4.out.mono (by omega))⟩
end Go.Proofs.Ytamnacgclhaggaa

namespace Go.Proofs.Ytamnacgclhaggaa
open Go.ChangeShapes Go.WideShapes Go.ChangeAt Go.RowKit

def cntL (l : List Int) (L : List (List Int)) : Nat := (L.filter (has3 l)).length
theorem cntL_le (l : List Int) (L : List (List Int)) : cntL l L ≤ L.length := List.length_filter_le _ _
theorem cnt_step (l : List Int) (L : List (List Int)) (k : Nat) (h : k < L.length) : cntL l (L.take (k + 1)) = cntL l (L.take k) + if has3 l (rowK L k) then 1 else 0 := by
  unfold cntL
  rw [List.take_succ_eq_append_getElem h, List.filter_append, List.length_append]
  have e : rowK L k = L[k] := by simp [rowK, List.getD, h]
  rw [e]
  cases hh : has3 l L[k] <;> simp [hh]
theorem cnt_take (l : List Int) (L : List (List Int)) (k : Nat) : cntL l (L.take k) ≤ k := by
  have h1 := cntL_le l (L.take k)
  have h2 : (L.take k).length ≤ k := by rw [List.length_take]; omega
  omega

/-- Each row is three points of the ring. -/
def Mem3 (l : List Int) (L : List (List Int)) : Prop := ∀ t ∈ L, ∃ x y z, t = [x, y, z] ∧ x ∈ l ∧ y ∈ l ∧ z ∈ l

set_option maxHeartbeats 1000000 in
theorem many_any (A : Option Addr) (n c H : Nat) (l : List Int) (A' : Option Addr) (m d H' : Nat) (L : List (List Int)) (w : World) (h : Rd w H A n l) (h' : RdS w H' A' m L) (h1 : 1 ≤ n) (hn : n ≤ 7) (hm : m ≤ 1000) (hM : Mem3 l L) :
    Calls Try.prog 109 #[.slice A n c, .slice A' m d] w fun e w' => e = .returned (.int .i64 (cntL l L : Nat)) ∧ ∃ q, w' = w.drewN q := by
  have HL := Lib.hid h'.len
  have HM := Lib.hid hM
  have HR := Lib.hid h
  clear hM h
  go_enter Try.func109, Try.ntmps109
  go_wp2
  go_loopw [5, 6] (fun s i wr => ∃ k : Nat, k ≤ m ∧ i = .int .i64 k ∧ s = .int .i64 (cntL l (L.take k) : Nat) ∧ RdS wr H' A' m L ∧ ∃ q, wr = w.drewN q) (fun _ i _ => m - (intOf i).toNat)
  case atStart => exact ⟨0, Nat.zero_le _, rfl, by simp [cntL], h', 0, rfl⟩
  case round =>
    obtain ⟨k, hk, rfl, rfl, hrd, q, hq⟩ := hrel
    have HQ := Lib.hid hq
    clear h'
    by_cases hlt : k < m
    · have hkl : k < L.length := by rw [HL.out]; exact hlt
      obtain ⟨b, o, rfl, hbB, hcs⟩ := hrd.at_ (by omega)
      obtain ⟨Ak, ck, hc, hr, _, _⟩ := hcs k hlt
      obtain ⟨x, y, z, e, hx, hy, hz⟩ := HM.out _ (rowK_mem hkl)
      rw [e] at hc hr
      have HC := Lib.hid (l2Has_any A n c H l Ak ck H' x y z wr (by rw [hq]; exact HR.out.drewN q) hr h1 hn hx hy hz)
      have HS := Lib.hid (cnt_step l L k hkl)
      rw [e] at HS
      have hle := cnt_take l L k
      clear hcs hr e hx hy hz hkl hq
      obtain ⟨s, hs⟩ : ∃ s, s = cntL l (L.take k) := ⟨_, rfl⟩
      rw [← hs] at hle HS ⊢
      clear hs
      change wr.cell? ⟨b, o + k, none⟩ = some (.slice Ak 3 ck) at hc
      cases hh : has3 l [x, y, z] with
      | true =>
        rw [hh] at HC HS
        clear hh
        go_wp2_with (go_at_call 47; refine HC.out.mono ?_; rintro e w' ⟨rfl, p, rfl⟩)
        go_roundw
        case rel => exact ⟨k + 1, by omega, by go_num, by rw [HS.out]; go_num, hrd.drewN _, q + p, by rw [HQ.out, World.drewN_drewN]⟩
        case measure => simp [intOf]; omega
      | false =>
        rw [hh] at HC HS
        clear hh
        go_wp2_with (go_at_call 47; refine HC.out.mono ?_; rintro e w' ⟨rfl, p, rfl⟩)
        go_roundw
        case rel => exact ⟨k + 1, by omega, by go_num, by rw [HS.out]; rfl, hrd.drewN _, q + p, by rw [HQ.out, World.drewN_drewN]⟩
        case measure => simp [intOf]; omega
    · obtain rfl : k = m := by omega
      have e : L.take k = L := List.take_of_length_le (by rw [HL.out]; omega)
      rw [e]
      go_wp2
      go_ret
      exact ⟨rfl, q, by first | rfl | exact HQ.out⟩

set_option maxRecDepth 10000 in
set_option maxHeartbeats 1000000 in
theorem agrees_any (l : List Int) (v : Value) (C : Nat) (L : List (List Int)) (w : World) (h : RowN w C 63 3 v L) (h1 : 1 ≤ l.length) (hl : l.length ≤ 7) (hp : ∀ x ∈ l, 0 ≤ x) (hm : L.length ≤ 1000) (hM : Mem3 l L) :
    Calls Try.prog 105 #[agp l, v] w fun e w' => e = .returned (.int .i64 (cntL l L : Nat)) ∧ Below w.heap.size w w' := by
  obtain ⟨A, c, rfl⟩ := h.slice
  obtain ⟨a0, a1, a2, a3, a4, a5, a6, hP⟩ := seven (padR_length l hl)
  have HH := Lib.hid (fun x y z W (hx : x ∈ l) (hy : y ∈ l) (hz : z ∈ l) => hasThree_any l x y z W h1 hl hp hx hy hz)
  unfold agp at HH ⊢
  rw [hP] at HH ⊢
  change Calls Try.prog 105 #[ag a0 a1 a2 a3 a4 a5 a6, .slice A L.length c] w _
  obtain ⟨m, hml⟩ : ∃ m, m = L.length := ⟨_, rfl⟩
  have HL := Lib.hid hml
  have HM := Lib.hid hM
  have HLT := Lib.hid (fun i hi => (h.lt i hi).2)
  have hw0 : Hid (Arr (w.alloc (.cells (ints [a0, a1, a2, a3, a4, a5, a6]).toArray 53)) w.heap.size [a0, a1, a2, a3, a4, a5, a6]) := heap_alloc_new w _
  have hr0 : Hid (RowN (w.alloc (.cells (ints [a0, a1, a2, a3, a4, a5, a6]).toArray 53)) C 63 3 (.slice A L.length c) L) := h.alloc _
  have hb0 : Below w.heap.size w (w.alloc (.cells (ints [a0, a1, a2, a3, a4, a5, a6]).toArray 53)) := (Below.refl _ _).alloc (Nat.le_refl _) _
  have hs0 : (w.alloc (.cells (ints [a0, a1, a2, a3, a4, a5, a6]).toArray 53)).heap.size = w.heap.size + 1 := by simp
  rw [← hml] at hm hr0 HLT ⊢
  clear h hM hml hP hp
  simp only [ints, List.map_cons, List.map_nil] at hw0 hr0 hb0 hs0
  go_enter Try.func105, Try.ntmps105
  go_wp2
  generalize hW0 : w.alloc (.cells #[.int .i64 a0, .int .i64 a1, .int .i64 a2, .int .i64 a3, .int .i64 a4, .int .i64 a5, .int .i64 a6] 53) = W0 at *
  clear hW0
  have HS0 := Lib.hid hs0
  clear hs0
  generalize hB : w.heap.size = B at *
  have HB := Lib.hid hB
  clear hB
  go_loopw [5, 10] (fun s i wr => ∃ k : Nat, k ≤ m ∧ i = .int .i64 k ∧ s = .int .i64 (cntL l (L.take k) : Nat) ∧ Hid (RowN wr C 63 3 (.slice A m c) L) ∧ Hid (Arr wr B [a0, a1, a2, a3, a4, a5, a6]) ∧ Below B w wr) (fun _ i _ => m - (intOf i).toNat)
  case atStart => exact ⟨0, Nat.zero_le _, rfl, by simp [cntL], hr0, hw0, hb0⟩
  case round =>
    obtain ⟨k, hk, rfl, rfl, hrd, harr, hbl⟩ := hrel
    clear hr0 hw0 hb0
    have hBw := harr.out.lt
    have HBL := Lib.hid hbl
    clear hbl
    by_cases hlt : k < m
    · have hkl : k < L.length := by rw [← HL.out]; exact hlt
      obtain ⟨g, c', e0, _, hgs, _, _, _, _⟩ := hrd.out.elem hkl
      rw [← HL.out] at e0
      injection e0 with e1 _ e3
      subst e3
      subst e1
      have HKL := Lib.hid hkl
      obtain ⟨x, y, z, e, hx, hy, hz⟩ := HM.out _ (rowK_mem hkl)
      have HE := Lib.hid e
      have HC := Lib.hid (fun W => HH.out x y z W hx hy hz)
      have HS := Lib.hid (cnt_step l L k hkl)
      rw [e] at HS
      have hle := cnt_take l L k
      have hlt1 := HLT.out g rfl
      clear e hx hy hz hkl
      obtain ⟨s, hs⟩ : ∃ s, s = cntL l (L.take k) := ⟨_, rfl⟩
      rw [← hs] at hle HS ⊢
      clear hs
      have HNT := Lib.hid (Blk.new (t := 63) wr [0, 0, 0])
      cases hh : has3 l [x, y, z] with
      | true =>
        rw [hh] at HC HS
        clear hh
        go_wp2_with (first
          | (refine load_elem rfl _ 63 rfl _ rfl Try.underlying63 g m c C k 3 L hrd HKL.out three_size rfl ?_; rw [HE.out])
          | (refine store_tri rfl _ _ rfl wr.heap.size zero3 [x, y, z] rfl rfl rfl rfl HNT ?_; intro w6 HB6 hg6 hs6; have h6 : Hid (Below wr.heap.size wr w6) := Lib.hid (((Below.refl _ _).alloc (Nat.le_refl _) _).grown hg6 (by simp) (by simp)); have HA6 := Lib.hid (harr.out.below h6.out hBw))
          | (refine load_ring rfl _ rfl B [a0, a1, a2, a3, a4, a5, a6] rfl rfl HA6 ?_)
          | (refine load_tri rfl _ rfl wr.heap.size [x, y, z] rfl rfl HB6 ?_)
          | (go_at_call 49; refine (HC.out _).mono ?_; rintro e w7 ⟨rfl, hb7⟩; have h7 : Hid (Below wr.heap.size wr w7) := Lib.hid (h6.out.trans (hb7.mono h6.out.size))))
        go_wp2
        go_roundw
        case rel => exact ⟨k + 1, by omega, by go_num, by rw [HS.out]; go_num, Lib.hid (hrd.out.below h7.out (fun i hi => (hrd.out.lt i hi).2)), Lib.hid (harr.out.below h7.out hBw), HBL.out.trans (h7.out.mono (by omega))⟩
        case measure => simp [intOf]; omega
      | false =>
        rw [hh] at HC HS
        clear hh
        go_wp2_with (first
          | (refine load_elem rfl _ 63 rfl _ rfl Try.underlying63 g m c C k 3 L hrd HKL.out three_size rfl ?_; rw [HE.out])
          | (refine store_tri rfl _ _ rfl wr.heap.size zero3 [x, y, z] rfl rfl rfl rfl HNT ?_; intro w6 HB6 hg6 hs6; have h6 : Hid (Below wr.heap.size wr w6) := Lib.hid (((Below.refl _ _).alloc (Nat.le_refl _) _).grown hg6 (by simp) (by simp)); have HA6 := Lib.hid (harr.out.below h6.out hBw))
          | (refine load_ring rfl _ rfl B [a0, a1, a2, a3, a4, a5, a6] rfl rfl HA6 ?_)
          | (refine load_tri rfl _ rfl wr.heap.size [x, y, z] rfl rfl HB6 ?_)
          | (go_at_call 49; refine (HC.out _).mono ?_; rintro e w7 ⟨rfl, hb7⟩; have h7 : Hid (Below wr.heap.size wr w7) := Lib.hid (h6.out.trans (hb7.mono h6.out.size))))
        go_wp2
        go_roundw
        case rel => exact ⟨k + 1, by omega, by go_num, by rw [HS.out]; rfl, Lib.hid (hrd.out.below h7.out (fun i hi => (hrd.out.lt i hi).2)), Lib.hid (harr.out.below h7.out hBw), HBL.out.trans (h7.out.mono (by omega))⟩
        case measure => simp [intOf]; omega
    · obtain rfl : k = m := by omega
      have e : L.take k = L := List.take_of_length_le (by rw [HL.out]; omega)
      rw [e]
      go_wp2
      go_ret
      exact ⟨rfl, by rw [HB.out]; exact HBL.out⟩

/-! ### All rings of n points -/
theorem IsR.mem3 {n : Nat} {l : List Int} (h : IsR n l) {L : List (List Int)} (hL : ∀ t ∈ L, Thr (n : Int) t) : Mem3 l L := fun t ht => by
  obtain ⟨x, y, z, rfl⟩ := of_three (hL t ht).1
  have hm := (hL _ ht).2.1
  exact ⟨x, y, z, rfl, h.2.2 x (hm x (by simp)).1 (hm x (by simp)).2, h.2.2 y (hm y (by simp)).1 (hm y (by simp)).2, h.2.2 z (hm z (by simp)).1 (hm z (by simp)).2⟩
end Go.Proofs.Ytamnacgclhaggaa

namespace Go.Proofs.Ytamnacgclhaggaa
open Go.ChangeShapes Go.WideShapes Go.ChangeAt Go.RowKit

def agreeL (n : Nat) (L : List (List Int)) : List (List Int) := (ringsL n).filter fun l => decide (cntL l L = L.length)
theorem agreeL_len (n : Nat) (L : List (List Int)) (h3 : 3 ≤ n) (h6 : n ≤ 6) : (agreeL n L).length ≤ 720 := by
  have h1 := List.length_filter_le (fun l => decide (cntL l L = L.length)) (ringsL n)
  rw [ringsL_length] at h1
  have := (facM_eq n h3 h6).2.1
  unfold agreeL; omega
def agreeTo (n : Nat) (L : List (List Int)) (k : Nat) : List (List Int) := ((List.range k).map fun j : Nat => byL n (j : Int)).filter fun l => decide (cntL l L = L.length)
theorem agreeTo_full (n : Nat) (L : List (List Int)) : agreeTo n L (facM n) = agreeL n L := rfl
theorem agreeTo_len (n : Nat) (L : List (List Int)) (k : Nat) : (agreeTo n L k).length ≤ k := by
  have h1 := List.length_filter_le (fun l => decide (cntL l L = L.length)) ((List.range k).map fun j : Nat => byL n (j : Int))
  simp only [List.length_map, List.length_range] at h1
  exact h1
theorem agreeTo_yes (n : Nat) (L : List (List Int)) (k : Nat) (h : cntL (byL n k) L = L.length) : agreeTo n L k ++ [byL n k] = agreeTo n L (k + 1) := by
  simp [agreeTo, List.range_succ, List.filter_append, h]
theorem agreeTo_no (n : Nat) (L : List (List Int)) (k : Nat) (h : ¬ cntL (byL n k) L = L.length) : agreeTo n L k = agreeTo n L (k + 1) := by
  simp [agreeTo, List.range_succ, List.filter_append, h]

/-- What is owned at its block's head is a row. -/
theorem Own.rowV {w : World} {B : Nat} {v : Value} {l : List Int} (h : Own w B v l) : RowV w B v l := by
  refine ⟨h.gen, ?_⟩
  rcases h.2 with ⟨e, h0⟩ | ⟨g, cap, cur, e, _, _, h2, h3, _⟩
  · exact ⟨none, 0, by rw [e, h0], by omega, by omega⟩
  · exact ⟨_, cap, e, h2, by unfold maxLen at h3; omega⟩

end Go.Proofs.Ytamnacgclhaggaa

namespace Go.Proofs.Ytamnacgclhaggaa
open Go.ChangeShapes Go.WideShapes Go.ChangeAt Go.RowKit

end Go.Proofs.Ytamnacgclhaggaa

namespace Go.Proofs.Ytamnacgclhaggaa
open Go.ChangeShapes Go.WideShapes Go.ChangeAt Go.RowKit

def sharedL (n : Nat) (R : List (List Int)) : List (List Int) := (everyL n).filter fun t => R.all fun l => has3 l t

set_option maxRecDepth 10000 in
set_option maxHeartbeats 1000000 in
theorem shared11_any (l : List Int) (bt : Nat) (x y z : Int) (w : World) (hbt : Tri w bt [x, y, z]) (h1 : 1 ≤ l.length) (hl : l.length ≤ 7) (hp : ∀ x ∈ l, 0 ≤ x) (hx : x ∈ l) (hy : y ∈ l) (hz : z ∈ l) :
    Calls Try.prog 96 #[.agg (ints (padR l)).toArray, .pointer (some ⟨bt, 0, none⟩)] w fun e w' => e = .returned (.bool (!has3 l [x, y, z])) ∧ Below w.heap.size w w' := by
  have HC := Lib.hid (fun W => hasThree_any l x y z W h1 hl hp hx hy hz)
  have H7 := Lib.hid (padR_length l hl)
  have HA := Lib.hid (heap_alloc_new w (.cells (ints (padR l)).toArray 53))
  have HT := Lib.hid (hbt.alloc (.cells (ints (padR l)).toArray 53))
  obtain ⟨a0, a1, a2, a3, a4, a5, a6, hP⟩ := seven H7.out
  unfold agp at HC
  rw [hP] at HC HA HT ⊢
  change Hid (Arr _ w.heap.size [a0, a1, a2, a3, a4, a5, a6]) at HA
  change Hid (Tri _ bt [x, y, z]) at HT
  simp only [ints, List.map_cons, List.map_nil] at HA HT HC
  change Calls Try.prog 96 #[ag a0 a1 a2 a3 a4 a5 a6, .pointer (some ⟨bt, 0, none⟩)] w _
  have hbw : bt < w.heap.size := hbt.lt
  clear hbt hP H7 hp hx hy hz
  obtain ⟨r, hr⟩ : ∃ r, r = has3 l [x, y, z] := ⟨_, rfl⟩
  rw [← hr] at HC ⊢
  clear hr
  go_enter Try.func96, Try.ntmps96
  go_wp2_with (first
    | (refine load_ring rfl _ rfl w.heap.size [a0, a1, a2, a3, a4, a5, a6] rfl rfl HA ?_)
    | (refine load_tri rfl _ rfl bt [x, y, z] rfl rfl HT ?_)
    | (go_at_call 49; refine (HC.out _).mono ?_; rintro e w5 ⟨rfl, hb5⟩))
  go_ret
  exact ⟨rfl, ((Below.refl _ _).alloc (Nat.le_refl _) _).trans (hb5.mono (by simp))⟩

set_option maxRecDepth 10000 in
set_option maxHeartbeats 1000000 in
theorem containsF_any (fid : Nat) (hE : ∀ args w, (callFunc fid args).run Try.prog w = .ok (.enter fid args) w) (cap : Value) (p : List Int → Bool) (D E : Nat) (v : Value) (M : List (List Int)) (w : World) (h : RowN w D 53 7 v M) (hD : E ≤ w.heap.size) (hM : M.length ≤ 1000)
    (hf : ∀ W, Below E w W → ∀ l ∈ M, Calls Try.prog fid #[.agg (ints l).toArray, cap] W fun e w' => e = .returned (.bool (p l)) ∧ Below W.heap.size W w') :
    Calls Try.prog 95 #[v, .func (.func fid) #[] #[cap]] w fun e w' => e = .returned (.bool (M.any p)) ∧ Below w.heap.size w w' := by
  have HI := Lib.hid (indexF_ring fid hE cap p D E v M w h hD hM hf)
  have hv : decide (0 ≤ idxR p M) = M.any p := by
    unfold idxR
    cases hany : M.any p with
    | true =>
      have : M.findIdx p < M.length := by
        rw [List.findIdx_lt_length]
        simpa [List.any_eq_true] using hany
      rw [if_pos this]; simp
    | false =>
      rw [if_neg]
      · rfl
      · rw [List.findIdx_lt_length]
        rintro ⟨l, hl, hp⟩
        have := List.any_eq_true.2 ⟨l, hl, hp⟩
        rw [hany] at this; cases this
  rw [← hv]
  clear h hf hv
  generalize idxR p M = i at *
  go_enter Try.func95, Try.ntmps95
  go_wp2_with (go_at_call 123; refine HI.out.mono ?_; rintro e w5 ⟨rfl, hb5⟩)
  go_ret
  exact ⟨rfl, hb5⟩

set_option maxRecDepth 10000 in
set_option maxHeartbeats 1000000 in
theorem shared1_any (n : Nat) (bx : Nat) (v : Value) (D : Nat) (R : List (List Int)) (t : List Int) (w : World) (hbx : w.cell? ⟨bx, 0, none⟩ = some v) (h : RowN w D 53 7 v (padM R)) (hR : ∀ l ∈ R, IsR n l) (h3 : 3 ≤ n) (h7 : n ≤ 7) (hm : R.length ≤ 1000) (ht : Thr (n : Int) t) :
    Calls Try.prog 94 #[.agg (ints t).toArray, .pointer (some ⟨bx, 0, none⟩)] w fun e w' => e = .returned (.bool (!R.all fun l => has3 l t)) ∧ Below w.heap.size w w' := by
  obtain ⟨x, y, z, rfl⟩ := of_three ht.1
  have hM3 := fun l (hl : l ∈ R) => (hR l hl).mem3 (L := [[x, y, z]]) (fun r hr => by rw [List.mem_singleton.1 hr]; exact ht)
  have hbw : bx < w.heap.size := World.block_lt_of_cell? w _ hbx
  have hE := enters_fn Try.func96 (by decide) rfl
  obtain ⟨W, hW⟩ : ∃ W, W = w.alloc (.cells (ints [x, y, z]).toArray 63) := ⟨_, rfl⟩
  have kb : Below w.heap.size w W := by rw [hW]; exact (Below.refl _ _).alloc (Nat.le_refl _) _
  have k1 : Tri W w.heap.size [x, y, z] := by rw [hW]; exact Blk.new w _
  have k2 : W.heap.size = w.heap.size + 1 := by rw [hW]; simp
  have k3 : W.cell? ⟨bx, 0, none⟩ = some v := (kb.cell (p := ⟨bx, 0, none⟩) hbw).trans hbx
  have k4 := h.below kb (fun i hi => (h.lt i hi).2)
  have HCF := Lib.hid (containsF_any 96 hE (.pointer (some ⟨w.heap.size, 0, none⟩)) (fun P => !has3 (unpad P) [x, y, z]) D W.heap.size v (padM R) W k4 (Nat.le_refl _) (by simpa [padM] using hm) (fun V hV P hP => by
    simp only [padM, List.mem_map] at hP
    obtain ⟨l, hl, rfl⟩ := hP
    have hI := hR l hl
    rw [unpad_pad l hI.2.1]
    obtain ⟨x', y', z', e, gx, gy, gz⟩ := hM3 l hl [x, y, z] (by simp)
    injection e with e4 e5
    injection e5 with e5 e6
    injection e6 with e6 _
    subst e4; subst e5; subst e6
    exact shared11_any l w.heap.size x y z V (k1.below hV (by omega)) (by rw [hI.1]; omega) (by rw [hI.1]; omega) hI.2.1 gx gy gz))
  have hany : (padM R).any (fun P => !has3 (unpad P) [x, y, z]) = !R.all fun l => has3 l [x, y, z] := by
    have e : ∀ R : List (List Int), (∀ l ∈ R, IsR n l) → (padM R).any (fun P => !has3 (unpad P) [x, y, z]) = !R.all fun l => has3 l [x, y, z] := by
      intro R hR
      induction R with
      | nil => rfl
      | cons l R ih =>
        have ih' := ih (fun r hr => hR r (by simp [hr]))
        simp only [padM, List.map_cons, List.any_cons, List.all_cons] at ih' ⊢
        rw [ih', unpad_pad l (hR l (by simp)).2.1, Bool.not_and]
    exact e R hR
  rw [hany] at HCF
  simp only [ints, List.map_cons, List.map_nil] at hW
  have k3w := k3
  rw [hW] at k3w
  change Calls Try.prog 94 #[.agg #[.int .i64 x, .int .i64 y, .int .i64 z], .pointer (some ⟨bx, 0, none⟩)] w _
  have HKB := Lib.hid kb
  have HSZ := Lib.hid k2
  clear h hR hM3 k1 k2 k4 hany kb hE hbx ht
  obtain ⟨r, hr⟩ : ∃ r, r = R.all (fun l => has3 l [x, y, z]) := ⟨_, rfl⟩
  rw [← hr] at HCF ⊢
  clear hr
  go_enter Try.func94, Try.ntmps94
  go_wp2_with fail
  rw [← hW]
  refine HCF.out.mono ?_
  rintro e w5 ⟨rfl, hb5⟩
  go_wp2
  go_ret
  exact ⟨rfl, HKB.out.trans (hb5.mono (by have := HSZ.out; omega))⟩

set_option maxRecDepth 10000 in
set_option maxHeartbeats 1000000 in
theorem shared_any (n : Nat) (v : Value) (D : Nat) (R : List (List Int)) (w : World) (h : RowN w D 53 7 v (padM R)) (hR : ∀ l ∈ R, IsR n l) (h3 : 3 ≤ n) (h7 : n ≤ 7) (hm : R.length ≤ 1000) :
    Calls Try.prog 44 #[.int .i64 (n : Int), v] w fun e w' => ∃ v', e = .returned v' ∧ RowN w' w.heap.size 63 3 v' (sharedL n R) ∧ Below w.heap.size w w' := by
  obtain ⟨A, c, rfl⟩ := h.slice
  obtain ⟨W, hW⟩ : ∃ W, W = w.alloc (.cells #[.slice A (padM R).length c] 59) := ⟨_, rfl⟩
  have kb : Below w.heap.size w W := by rw [hW]; exact (Below.refl _ _).alloc (Nat.le_refl _) _
  have k2 : W.heap.size = w.heap.size + 1 := by rw [hW]; simp
  have k3 : W.cell? ⟨w.heap.size, 0, none⟩ = some (.slice A (padM R).length c) := by rw [hW]; simp
  have k4 := h.below kb (fun i hi => (h.lt i hi).2)
  have HF : Hid (∀ V, Below W.heap.size W V → ∀ t ∈ everyL n, Calls Try.prog 94 #[.agg (ints t).toArray, .pointer (some ⟨w.heap.size, 0, none⟩)] V fun e w' => e = .returned (.bool (!R.all fun l => has3 l t)) ∧ Below V.heap.size V w') := fun V hV t ht =>
    shared1_any n w.heap.size _ D R t V ((hV.cell (p := ⟨w.heap.size, 0, none⟩) (by simp; omega)).trans k3) (k4.below hV (fun i hi => by have := (h.lt i hi).2; omega)) hR h3 h7 hm ((every_thr n t).1 ht)
  have HEL := Lib.hid (everyL_len n h7)
  have HR : Hid ((everyL n).filter (fun t => !(!R.all fun l => has3 l t)) = sharedL n R) := by simp [Hid, sharedL]
  have hE := Lib.hid (enters_fn Try.func94 (by decide) rfl)
  clear h hR k3 k4
  have HB := Lib.hid kb
  have hBW : w.heap.size ≤ W.heap.size := by omega
  clear kb k2
  generalize (padM R).length = z at *
  go_enter Try.func44, Try.ntmps44
  go_wp2_with fail
  rw [← hW]
  clear hW
  generalize hBB : w.heap.size = B at *
  have HBB := Lib.hid hBB
  clear hBB
  refine (allThrees_any n W h7).mono ?_
  rintro e w1 ⟨v1, rfl, hr1, hb1⟩
  have HR1 := Lib.hid hr1
  have HB1 := Lib.hid hb1
  have hs1 := hb1.size
  clear hr1 hb1
  go_wp2_with fail
  refine (deleteF_three 94 hE.out (.pointer (some ⟨B, 0, none⟩)) (fun t => !R.all fun l => has3 l t) W.heap.size v1 _ w1 HR1.out hs1 (by have := HEL.out; omega) (fun V hV => HF.out V (HB1.out.trans hV))).mono ?_
  rintro e w2 ⟨v2, rfl, hr2, hb2⟩
  rw [HR.out] at hr2
  go_wp2
  go_ret
  exact ⟨_, rfl, by rw [HBB.out]; exact hr2.less hBW, by rw [HBB.out]; exact (HB.out.trans (HB1.out.mono hBW)).trans (hb2.mono hBW)⟩
end Go.Proofs.Ytamnacgclhaggaa

namespace Go.Proofs.Ytamnacgclhaggaa
open Go.ChangeShapes Go.WideShapes Go.ChangeAt Go.RowKit

def inB (l t : List Int) : Bool := ringB l && thr l.length t && has3 l t

theorem thr_mem {l t : List Int} (h : Tell l) (ht : Thr l.length t) : ∃ x y z, t = [x, y, z] ∧ x ∈ l ∧ y ∈ l ∧ z ∈ l := by
  obtain ⟨x, y, z, rfl⟩ := of_three ht.1
  have hm := ht.2.1
  exact ⟨x, y, z, rfl, h.has (hm x (by simp)).1 (hm x (by simp)).2, h.has (hm y (by simp)).1 (hm y (by simp)).2, h.has (hm z (by simp)).1 (hm z (by simp)).2⟩

set_option maxRecDepth 10000 in
set_option maxHeartbeats 2000000 in
theorem tiI_any (A : Option Addr) (n c : Nat) (A' : Option Addr) (m d H : Nat) (l t : List Int) (w : World) (h : Rd w H A n l) (h' : Rd w H A' m t) (hH : H ≤ w.heap.size) (hn : n ≤ 1048576) (_ : m ≤ 1048576) (hnc : n ≤ c) (hcm : c ≤ 9223372036854775807) (hmd : m ≤ d) (hdm : d ≤ 9223372036854775807) :
    Calls Try.prog 16 #[.slice A n c, .slice A' m d] w fun e w' => e = .returned (.bool (inB l t)) ∧ Below w.heap.size w w' := by
  have HL := Lib.hid h.len
  have HR := Lib.hid (readR_any A n c H l w h hH hn hnc hcm)
  have H7 := Lib.hid (ringP_length l)
  have HQ3 := Lib.hid (thrL_length (n : Int) t)
  obtain ⟨P, hP⟩ : ∃ P, P = ringP l := ⟨_, rfl⟩
  obtain ⟨T, hT⟩ : ∃ T, T = thrL (n : Int) t := ⟨_, rfl⟩
  have HT := Lib.hid (fun W (hR : Rd W H A' m t) (hW : H ≤ W.heap.size) => readThree_any A' m d H t (n : Int) W hR hW hmd hdm)
  rw [← hP] at HR H7
  rw [← hT] at HT HQ3
  have HP := Lib.hid hP
  have HTT := Lib.hid hT
  obtain ⟨rb, hrb⟩ : ∃ rb, rb = ringB l := ⟨_, rfl⟩
  obtain ⟨tb, htb⟩ : ∃ tb, tb = thr (n : Int) t := ⟨_, rfl⟩
  rw [← hrb] at HR
  rw [← htb] at HT
  have HRB := Lib.hid hrb
  have HTB := Lib.hid htb
  have HX : Hid (inB l t = (rb && (tb && has3 l t))) := by rw [HRB.out, HTB.out, ← HL.out]; simp [Hid, inB, Bool.and_assoc]
  have HG : Hid (rb = true → tb = true → ∃ x y z, t = [x, y, z] ∧ P = padR l ∧ T = [x, y, z] ∧ 1 ≤ l.length ∧ l.length ≤ 7 ∧ (∀ x ∈ l, 0 ≤ x) ∧ x ∈ l ∧ y ∈ l ∧ z ∈ l) := by
    intro e1 e2
    have hr : Ring l := by have := HRB.out; rw [e1] at this; simpa [ringB] using this.symm
    have ht : Thr (n : Int) t := by have := HTB.out; rw [e2] at this; simpa [thr] using this.symm
    obtain ⟨x, y, z, rfl, hx, hy, hz⟩ := thr_mem hr.1 (by rw [HL.out]; exact ht)
    exact ⟨x, y, z, rfl, by rw [HP.out, ringP, if_pos hr], by rw [HTT.out, (thr_yes ht).2], by have := hr.1.1; omega, hr.1.2.1, hr.1.pos, hx, hy, hz⟩
  rw [HX.out]
  clear hP hT hrb htb h HL
  go_enter Try.func16, Try.ntmps16
  go_wp2_with fail
  refine HR.out.mono ?_
  rintro e W1 ⟨rfl, hb1⟩
  have HA := Lib.hid (new_ring W1)
  have hR1 := h'.below (hb1.mono hH)
  have hs1 := hb1.size
  clear HR h'
  go_wp2_with (first
    | (refine store_ring rfl _ _ rfl W1.heap.size zero7 P rfl H7.out rfl rfl HA ?_; intro w2 HA2 hg2 hs2; have hb2 : Hid (Below W1.heap.size W1 w2) := Lib.hid (((Below.refl _ _).alloc (Nat.le_refl _) _).grown hg2 (by simp) (by simp))))
  have hs2' := hb2.out.size
  have HB2 := Lib.hid (hb1.trans (hb2.out.mono hs1))
  have HT2 := Lib.hid (HT.out w2 (hR1.below (hb2.out.mono (by omega))) (by omega))
  have hlt2 := HA2.out.lt
  clear hb2 hg2 hs2 HA hR1 hb1 HT
  refine HT2.out.mono ?_
  rintro e W3 ⟨rfl, hb3⟩
  have HA3 := Lib.hid (HA2.out.below hb3 hlt2)
  have HN := Lib.hid (new_tri W3)
  have hs3 := hb3.size
  have HB3 := Lib.hid (HB2.out.trans (hb3.mono (by omega)))
  clear HT2 HA2 HB2 hb3
  obtain ⟨a0, a1, a2, a3, a4, a5, a6, rfl⟩ := seven H7.out
  obtain ⟨x, y, z, rfl⟩ := of_three HQ3.out
  generalize hG : W1.heap.size = G at *
  cases rb with
  | false =>
    go_wp2_with (refine store_tri rfl _ _ rfl W3.heap.size zero3 [x, y, z] rfl rfl rfl rfl HN ?_; intro w4 HT4 hg4 hs4)
    go_ret
    exact ⟨rfl, (HB3.out.alloc (by omega) _).grown hg4 (by simp; omega) (by simp; omega)⟩
  | true =>
    cases tb with
    | false =>
      go_wp2_with (refine store_tri rfl _ _ rfl W3.heap.size zero3 [x, y, z] rfl rfl rfl rfl HN ?_; intro w4 HT4 hg4 hs4)
      go_ret
      exact ⟨rfl, (HB3.out.alloc (by omega) _).grown hg4 (by simp; omega) (by simp; omega)⟩
    | true =>
      obtain ⟨x', y', z', rfl, e2, e3, g1, g7, gp, gx, gy, gz⟩ := HG.out rfl rfl
      injection e3 with e4 e5
      injection e5 with e5 e6
      injection e6 with e6 _
      subst e4; subst e5; subst e6
      have HH := Lib.hid (fun W => hasThree_any l x y z W g1 g7 gp gx gy gz)
      unfold agp at HH
      rw [← e2] at HH
      obtain ⟨r, hr⟩ : ∃ r, r = has3 l [x, y, z] := ⟨_, rfl⟩
      rw [← hr] at HH
      have HRR := Lib.hid hr
      clear hr e2 gp gx gy gz HG HP HTT HRB HTB HX
      go_wp2_with (first
        | (refine store_tri rfl _ _ rfl W3.heap.size zero3 [x, y, z] rfl rfl rfl rfl HN ?_; intro w4 HT4 hg4 hs4; have HA4 := (HA3.out.alloc (.cells #[.int .i64 0, .int .i64 0, .int .i64 0] 63)).grown hg4 (by have := HA3.out.lt; omega); obtain ⟨d0, d1, d2, d3, d4, d5, d6⟩ := cells7 HA4; have t0 := HT4.out.cell (i := 0) (by simp); have t1 := HT4.out.cell (i := 1) (by simp); have t2 := HT4.out.cell (i := 2) (by simp); simp only [List.getD_cons_zero, List.getD_cons_succ] at t0 t1 t2; clear HA4)
        | (go_at_call 49; refine (HH.out _).mono ?_; rintro e w5 ⟨rfl, hb5⟩))
      go_ret
      exact ⟨by rw [← HRR.out]; rfl, ((HB3.out.alloc (by omega) _).grown hg4 (by simp; omega) (by simp; omega)).trans (hb5.mono (by rw [hs4]; simp; omega))⟩
end Go.Proofs.Ytamnacgclhaggaa

namespace Go.Proofs.Ytamnacgclhaggaa
open Go.ChangeShapes Go.WideShapes Go.ChangeAt Go.RowKit

/-- The three the other way. -/
def turn3 (l : List Int) : List Int := [l.getD 0 0, l.getD 2 0, l.getD 1 0]
def back3 (L : List (List Int)) : List (List Int) := L.map turn3
def backT (n : Int) (L : List (List Int)) : List (List Int) := if Tel n L then back3 L else []
theorem sumTo_small (L : List (List Int)) (h : ∀ l ∈ L, l.length ≤ 7) : ∀ k, k ≤ L.length → sumTo L k ≤ 7 * k
  | 0, _ => by simp [sumTo]
  | k + 1, hk => by
    have h1 := sumTo_small L h k (by omega)
    have h2 := h _ (rowK_mem (show k < L.length by omega))
    simp only [sumTo]; omega
theorem tot_small (L : List (List Int)) (h : ∀ l ∈ L, l.length ≤ 7) (hl : L.length ≤ 1000) : tot L ≤ 1048576 := by
  have := sumTo_small L h L.length (Nat.le_refl _)
  unfold tot; omega
theorem backT_tot (n : Int) (L : List (List Int)) : tot (backT n L) ≤ 1048576 := by
  unfold backT
  split
  · rename_i h
    refine tot_small _ (fun l hl => ?_) (by have := h.2.2.1; simp [back3]; omega)
    simp only [back3, List.mem_map] at hl
    obtain ⟨m, _, rfl⟩ := hl
    simp [turn3]
  · simp [tot, sumTo]
theorem back3_step (L : List (List Int)) (k : Nat) (h : k < L.length) : back3 (L.take k) ++ [turn3 (rowK L k)] = back3 (L.take (k + 1)) := by
  unfold back3
  rw [List.take_succ_eq_append_getElem h, List.map_append]
  simp only [rowK, List.getD, List.getElem?_eq_getElem h, Option.getD_some, List.map_cons, List.map_nil]

/-- The program's lists of threes. -/
theorem made_rows {w1 : World} {B n : Nat} {L : List (List Int)} {xs : List Value} (hown : w1.ownsRow B 23 1 (.slice (some ⟨B, 0, none⟩) n n) n xs) : Fill w1 B n L 0 := by
  rcases hown.2 with ⟨e, _⟩ | ⟨g, cap, cur, e, _, hg, _, _, hs, _⟩
  · cases e
  · injection e with e1 _ e3
    injection e1 with e1
    injection e1 with e1
    subst e1
    exact Fill.made hg (by rw [hs]; omega)

set_option maxRecDepth 10000 in
theorem tlist_any (x y z : Int) (D : Nat) (w : World) (hD : D ≤ w.heap.size + 1) :
    Calls Try.prog 91 #[.agg (ints [x, y, z]).toArray] w fun e w' => e = .returned (.slice (some ⟨w.heap.size + 1, 0, none⟩) 3 3) ∧ Own w' D (.slice (some ⟨w.heap.size + 1, 0, none⟩) 3 3) [x, y, z] ∧ Below w.heap.size w w' := by
  change Calls Try.prog 91 #[.agg #[.int .i64 x, .int .i64 y, .int .i64 z]] w _
  have ho := World.ownsRow_lit (base := D) (e := 3) (size := 1) (w.alloc (.cells (ints [x, y, z]).toArray 63)) (ints [x, y, z]).toArray 3 (by simp; omega) (by decide) (by simp)
  rw [show (w.alloc (.cells (ints [x, y, z]).toArray 63)).heap.size = w.heap.size + 1 by simp] at ho
  have HO := Lib.hid ho
  clear ho
  go_enter Try.func91, Try.ntmps91
  go_wp2
  go_ret
  exact ⟨by simp, HO.out, ((Below.refl _ _).alloc (Nat.le_refl _) _).alloc (by simp) _⟩

set_option maxRecDepth 10000 in
set_option maxHeartbeats 1000000 in
theorem threeLists_any (v : Value) (C : Nat) (L : List (List Int)) (w : World) (h : RowN w C 63 3 v L) (hn : L.length ≤ 1000) :
    Calls Try.prog 43 #[v] w fun e w' => e = .returned (.slice (some ⟨w.heap.size, 0, none⟩) L.length L.length) ∧
      OwnS w' w.heap.size w'.heap.size (.slice (some ⟨w.heap.size, 0, none⟩) L.length L.length) L ∧ Below w.heap.size w w' := by
  obtain ⟨i0, hi, hz0, hz1, hz2⟩ := info_parts row_info
  obtain ⟨A, c, rfl⟩ := h.slice
  have HH := Lib.hid h
  obtain ⟨n, hnl⟩ : ∃ n, n = L.length := ⟨_, rfl⟩
  rw [← hnl] at hn ⊢
  have HN := Lib.hid hnl
  have HTHR := Lib.hid h.1
  rw [← hnl] at HH
  clear h hnl
  go_enter Try.func43, Try.ntmps43
  go_wp2_with (at_make; refine wpList_make_full _ rfl _ _ 25 rfl w.heap.size 23 i0 (.slice none 0 0) 1 Try.underlying25 hi hz0 hz1 .i64 .i64 _ _ n rfl rfl rfl rfl (by rw [hz2]; omega) (by unfold maxLen; omega) (Nat.le_refl _) ?_)
  intro w1 hown hgrow
  have hb1 : Below w.heap.size w w1 := (Below.refl _ _).grown hgrow (Nat.le_refl _) (by simp)
  have hf1 : Hid (Fill w1 w.heap.size n L 0) := made_rows hown
  have hr1 : Hid (RowN w1 C 63 3 (.slice A n c) L) := HH.out.grown hgrow (by simp)
  have HLT := Lib.hid (fun i hi => (HH.out.lt i hi).2)
  clear hown hgrow
  generalize hB : w.heap.size = B at *
  have HB := Lib.hid hB
  clear hB HH
  go_wp2
  go_loopw [11] (fun i wr => ∃ k : Nat, k ≤ n ∧ i = .int .i64 k ∧ Hid (Fill wr B n L k) ∧ Hid (RowN wr C 63 3 (.slice A n c) L) ∧ Below B w wr) (fun i _ => n - (intOf i).toNat)
  case atStart => exact ⟨0, Nat.zero_le _, rfl, hf1, hr1, hb1⟩
  case round =>
    obtain ⟨k, hk, rfl, hf, hrd, hbl⟩ := hrel
    clear hf1 hr1 hb1
    have HBL := Lib.hid hbl
    have hBw := hf.out.lt
    clear hbl
    by_cases hlt : k < n
    · have hkl : k < L.length := by rw [← HN.out]; exact hlt
      obtain ⟨g, c', e0, _, hgs, _, _, _, _⟩ := hrd.out.elem hkl
      rw [← HN.out] at e0
      injection e0 with e1 _ e3
      subst e3
      subst e1
      have HKL := Lib.hid hkl
      obtain ⟨x, y, z, e⟩ := of_three (HTHR.out _ (rowK_mem hkl))
      have HE := Lib.hid e
      clear e hkl
      have HNT := Lib.hid (Blk.new (t := 63) wr [0, 0, 0])
      have hgB := HLT.out g rfl
      go_wp2_with (first
        | (refine load_elem rfl _ 63 rfl _ rfl Try.underlying63 g n c C k 3 L hrd HKL.out three_size rfl ?nx; rw [HE.out])
        | (refine store_tri rfl _ _ rfl wr.heap.size zero3 [x, y, z] rfl rfl rfl rfl HNT ?_; intro w6 HB6 hg6 hs6; have h6 : Hid (Below wr.heap.size wr w6) := Lib.hid (((Below.refl _ _).alloc (Nat.le_refl _) _).grown hg6 (by simp) (by simp)))
        | (refine load_tri rfl _ rfl wr.heap.size [x, y, z] rfl rfl HB6 ?_)
        | (go_at_call 91; refine (tlist_any x y z (B + 1) _ (by have := h6.out.size; omega)).mono ?_; rintro e w7 ⟨rfl, ho7, hb7⟩; have HO7 := Lib.hid ho7; have h7 : Hid (Below wr.heap.size wr w7) := Lib.hid (h6.out.trans (hb7.mono h6.out.size)); clear ho7 hb7; have hf7 := hf.out.below h7.out (Nat.le_refl _); obtain ⟨old, hcell⟩ := hf7.cell hlt; have hfr := hf7.frozen k; clear hf7))
      go_roundw
      have hz6 : rowK L k = [x, y, z] := HE.out
      have hFs := hf.out.step h7.out (g := w6.heap.size + 1) (m := 3) (by have := h6.out.size; omega) (by rw [hz6]; rfl) (by rw [hz6]; exact HO7.out) hlt
      rw [show w6.heap.size = wr.heap.size + 1 by rw [hs6]; simp] at hFs
      case rel => exact ⟨k + 1, by omega, by go_num, Lib.hid hFs, Lib.hid ((hrd.out.below h7.out (fun i hi => (hrd.out.lt i hi).2)).same fun i hi => Below.heap_setCell _ _ _ _ (by have := HLT.out i hi; simp; omega)), (HBL.out.trans (h7.out.mono (by omega))).setCell (by simp) _⟩
      case measure => simp [intOf]; omega
    · go_wp2
      go_ret
      obtain rfl : k = n := by omega
      rw [HB.out]
      exact ⟨rfl, hf.out.own HN.out.symm (fun j hj => by have := HTHR.out _ (rowK_mem (show j < L.length by rw [← HN.out]; exact hj)); omega), HBL.out⟩
end Go.Proofs.Ytamnacgclhaggaa

namespace Go.Proofs.Ytamnacgclhaggaa
open Go.ChangeShapes Go.WideShapes Go.ChangeAt Go.RowKit

theorem ownG_dn {w : World} {B B' : Nat} {v : Value} {l : List Int} (h : OwnG w B v l) (hB : B' ≤ B) : OwnG w B' v l := by
  rcases h with e | ⟨g, o, c, cur, e, hb, rest⟩
  · exact .inl e
  · exact .inr ⟨g, o, c, cur, e, by omega, rest⟩

end Go.Proofs.Ytamnacgclhaggaa

namespace Go.Proofs.Ytamnacgclhaggaa
open Go.ChangeShapes Go.WideShapes Go.ChangeAt Go.RowKit

def rgR (q : Int) (L : List (List Int)) : Int := if Tel q L then ((agreeL q.toNat L).length : Nat) else 0
def fsR (q : Int) (L : List (List Int)) : List Int := if Tel q L then rowK (agreeL q.toNat L) 0 else []
def fsB (q : Int) (L : List (List Int)) : Bool := if Tel q L then decide (0 < (agreeL q.toNat L).length) else false
theorem agreeL_is (n : Nat) (L : List (List Int)) (h3 : 3 ≤ n) (h6 : n ≤ 6) : ∀ l ∈ agreeL n L, IsR n l := fun l hl => ringsL_is n h3 h6 l (List.mem_filter.1 hl).1
theorem fsR_length (q : Int) (L : List (List Int)) : (fsR q L).length ≤ 7 := by
  unfold fsR
  split
  · rename_i ht
    rcases Nat.eq_zero_or_pos (agreeL q.toNat L).length with h0 | h0
    · rw [List.eq_nil_of_length_eq_zero h0]; simp [rowK]
    · have := (agreeL_is q.toNat L (by have := ht.1; omega) (by have := ht.2.1; omega) _ (rowK_mem h0)).1
      have := ht.2.1
      omega
  · simp
theorem tel_nat {q : Int} {L : List (List Int)} (ht : Tel q L) : ∃ k : Nat, q = k ∧ 3 ≤ k ∧ k ≤ 6 := ⟨q.toNat, by have := ht.1; omega, by have := ht.1; omega, by have := ht.2.1; omega⟩

theorem GrowS.row {w : World} {B : Nat} {v : Value} {L : List (List Int)} (h : GrowS w B v L) {k : Nat} (hk : k < L.length) : ∃ g c A d, v = .slice (some ⟨g, 0, none⟩) L.length c ∧ w.cell? ⟨g, k, none⟩ = some (.slice A (rowK L k).length d) ∧ RowV w B (.slice A (rowK L k).length d) (rowK L k) := by
  obtain ⟨xs, h1, h2⟩ := h
  obtain ⟨vk, h3, h4⟩ := h2 k hk
  obtain ⟨A, d, rfl, _⟩ := h4.2
  rcases h1.2 with ⟨_, h0⟩ | ⟨g, cap, cur, rfl, hB, hg, hc, hm, hs, ht⟩
  · omega
  · refine ⟨g, cap, A, d, rfl, ?_, h4⟩
    rw [cell_of_row w g _ cur _ _ hg]
    rw [← ht, List.getElem?_take, if_pos (by omega)] at h3
    simpa using h3

end Go.Proofs.Ytamnacgclhaggaa
