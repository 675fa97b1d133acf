/- Several texts as one: Has3 Cnt Rings Agree Shared InT BackT3 First RingT BackI. -/
import Derived.Test.YtdndddlikdccgaaPE
import Derived.Test.YtdndddlikdccgaaPR
import Derived.Deep.RegionHeld3
import Derived.Test.YtdndddlikdccgaaMA
import Derived.Deep.RegionHeldLaw
import Derived.Deep.AppendLies
namespace Go.Proofs.Ytdndddlikdccgaa
open Go.ChangeShapes Go.WideShapes Go.ChangeAt Go.RowKit

def has3 (l t : List Int) : Bool := decide (stepsI l (t.getD 0 0) (t.getD 1 0) < stepsI l (t.getD 0 0) (t.getD 2 0))

set_option maxHeartbeats 1000000 in
theorem l2Has_any (A : Option Addr) (n c H : Nat) (l : List Int) (A' : Option Addr) (c' H' : Nat) (x y z : Int) (w : World) (h : Rd w H A n l) (h' : Rd w H' A' 3 [x, y, z]) (h1 : 1 ≤ n) (hn : n ≤ 7) (hx : x ∈ l) (hy : y ∈ l) (hz : z ∈ l) :
    Calls Try.prog 71 #[.slice A n c, .slice A' 3 c'] w fun e w' => e = .returned (.bool (has3 l [x, y, z])) ∧ ∃ q, w' = w.drewN q := by
  have HY := Lib.hid (fun W (hW : Rd W H A n l) => (st_any A n c H l x y W hW h1 hn hx hy).mono (fun e w' (hh : e = .returned (.int .i64 (stepsI l x y)) ∧ W = w') => (⟨hh.1, hh.2.symm⟩ : e = .returned (.int .i64 (stepsI l x y)) ∧ w' = W)))
  have HZ := Lib.hid (fun W (hW : Rd W H A n l) => (st_any A n c H l x z W hW h1 hn hx hz).mono (fun e w' (hh : e = .returned (.int .i64 (stepsI l x z)) ∧ W = w') => (⟨hh.1, hh.2.symm⟩ : e = .returned (.int .i64 (stepsI l x z)) ∧ w' = W)))
  obtain ⟨b, o, rfl, _, c0, c1, c2⟩ := rd3 h'
  have HR := Lib.hid (fun q => h.drewN q)
  have hr : has3 l [x, y, z] = decide (stepsI l x y < stepsI l x z) := rfl
  rw [hr]
  clear hx hy hz h h' hr
  generalize stepsI l x y = s at *
  generalize stepsI l x z = t at *
  go_enter Try.func71, Try.ntmps71
  go_wp2
  go_quiet (first
    | (go_at_call_of 106 (Value.int IntKind.i64 y); refine Calls.quiet_of_same (HY.out _ (HR.out _)))
    | (go_at_call_of 106 (Value.int IntKind.i64 z); refine Calls.quiet_of_same (HZ.out _ (HR.out _))))
  go_wp2
  go_ret
  exact ⟨rfl, nq, rfl⟩

set_option maxRecDepth 10000 in
set_option maxHeartbeats 2000000 in
theorem hasThree_any (l : List Int) (x y z : Int) (w : World) (h1 : 1 ≤ l.length) (hl : l.length ≤ 7) (hp : ∀ x ∈ l, 0 ≤ x) (hx : x ∈ l) (hy : y ∈ l) (hz : z ∈ l) :
    Calls Try.prog 70 #[agp l, .agg (ints [x, y, z]).toArray] w fun e w' => e = .returned (.bool (has3 l [x, y, z])) ∧ Below w.heap.size w w' := by
  obtain ⟨a0, a1, a2, a3, a4, a5, a6, hP⟩ := seven (padR_length l hl)
  have HY := fun W => Lib.hid (steps_any l x y W h1 hl hp hx hy)
  have HZ := fun W => Lib.hid (steps_any l x z W h1 hl hp hx hz)
  have hr : has3 l [x, y, z] = decide (stepsI l x y < stepsI l x z) := rfl
  rw [hr]
  unfold agp at HY HZ ⊢
  rw [hP] at HY HZ ⊢
  simp only [ints, List.map_cons, List.map_nil] at HY HZ ⊢
  have HYY := Lib.hid HY
  have HZZ := Lib.hid HZ
  clear hP hp HY HZ hx hy hz hr
  generalize stepsI l x y = s at *
  generalize stepsI l x z = t at *
  obtain ⟨W0, hW0⟩ : ∃ W, W = w.alloc (.cells (ints [a0, a1, a2, a3, a4, a5, a6]).toArray 69) := ⟨_, rfl⟩
  obtain ⟨W, hW⟩ : ∃ W, W = W0.alloc (.cells (ints [x, y, z]).toArray 47) := ⟨_, rfl⟩
  have k1 : Arr W0 w.heap.size [a0, a1, a2, a3, a4, a5, a6] := by rw [hW0]; exact heap_alloc_new w _
  have k0 : W0.heap.size = w.heap.size + 1 := by rw [hW0]; simp
  have k2 : Arr W w.heap.size [a0, a1, a2, a3, a4, a5, a6] := by rw [hW]; exact k1.alloc _
  have k3 : Tri W (w.heap.size + 1) [x, y, z] := by rw [hW, ← k0]; exact Blk.new W0 _
  have k5 : W.heap.size = w.heap.size + 2 := by rw [hW]; simp [k0]
  have kb : Below w.heap.size w W := by rw [hW, hW0]; exact ((Below.refl _ _).alloc (Nat.le_refl _) _).alloc (by simp) _
  have HB := Lib.hid kb
  have HK := Lib.hid (fun (V : World) (hV : Below (w.heap.size + 2) W V) => (⟨cells7 (k2.below hV (by omega)), (k3.below hV (by omega)).cell (i := 0) (by simp), (k3.below hV (by omega)).cell (i := 1) (by simp), (k3.below hV (by omega)).cell (i := 2) (by simp)⟩ : _ ∧ _ ∧ _ ∧ _))
  simp only [ints, List.map_cons, List.map_nil] at hW0 hW
  go_enter Try.func70, Try.ntmps70
  go_wp2
  rw [← hW0, ← hW]
  clear hW0 hW k1 k0 k2 k3 kb
  have HSZ := Lib.hid k5
  have hBW : w.heap.size + 2 ≤ W.heap.size := by omega
  clear k5
  generalize hB : w.heap.size = B at *
  have HBB := Lib.hid hB
  clear hB
  have HST := Lib.hid (fun (V V' : World) (h1 : Below (B + 2) W V) (h2 : Below V.heap.size V V') => h1.trans (h2.mono (by have := h1.size; omega)))
  go_region_held3 (fun V => ((V.cell? ⟨B, 0, none⟩ = some (.int .i64 a0) ∧ V.cell? ⟨B, 1, none⟩ = some (.int .i64 a1) ∧ V.cell? ⟨B, 2, none⟩ = some (.int .i64 a2) ∧ V.cell? ⟨B, 3, none⟩ = some (.int .i64 a3) ∧ V.cell? ⟨B, 4, none⟩ = some (.int .i64 a4) ∧ V.cell? ⟨B, 5, none⟩ = some (.int .i64 a5) ∧ V.cell? ⟨B, 6, none⟩ = some (.int .i64 a6)) ∧ V.cell? ⟨B + 1, 0, none⟩ = some (.int .i64 x) ∧ V.cell? ⟨B + 1, 1, none⟩ = some (.int .i64 y) ∧ V.cell? ⟨B + 1, 2, none⟩ = some (.int .i64 z)))
    (first
      | exact HK.out _ (Below.refl _ _).drew
      | exact HK.out _ HB1.out
      | exact HK.out _ HB2.out
      | exact HK.out _ HB3.out
      | exact HK.out _ HB4.out)
    (first
      | (go_at_call_of 105 (Value.int IntKind.i64 y); refine ((HYY.out _).out).mono ?_; rintro e w5 ⟨rfl, hb⟩; first | (have HB4 := Lib.hid (HST.out _ _ HB3.out hb); clear hb) | (have HB1 := Lib.hid (HST.out _ _ (Below.refl _ W).drew hb); clear hb))
      | (go_at_call_of 105 (Value.int IntKind.i64 z); refine ((HZZ.out _).out).mono ?_; rintro e w6 ⟨rfl, hb⟩; first | (have HB2 := Lib.hid (HST.out _ _ HB1.out hb); clear hb) | (have HB3 := Lib.hid (HST.out _ _ (Below.refl _ W).drew hb); clear hb)))
  all_goals
    go_wp2
    go_ret
    exact ⟨rfl, by rw [HBB.out]; exact HB.out.trans (by first | exact HB2.out.mono (by omega) | exact HB4.out.mono (by omega))⟩
end Go.Proofs.Ytdndddlikdccgaa

namespace Go.Proofs.Ytdndddlikdccgaa
open Go.ChangeShapes Go.WideShapes Go.ChangeAt Go.RowKit

def cntL (l : List Int) (L : List (List Int)) : Nat := (L.filter (has3 l)).length
theorem cntL_le (l : List Int) (L : List (List Int)) : cntL l L ≤ L.length := List.length_filter_le _ _
theorem cnt_step (l : List Int) (L : List (List Int)) (k : Nat) (h : k < L.length) : cntL l (L.take (k + 1)) = cntL l (L.take k) + if has3 l (rowK L k) then 1 else 0 := by
  unfold cntL
  rw [List.take_succ_eq_append_getElem h, List.filter_append, List.length_append]
  have e : rowK L k = L[k] := by simp [rowK, List.getD, h]
  rw [e]
  cases hh : has3 l L[k] <;> simp [hh]
theorem cnt_take (l : List Int) (L : List (List Int)) (k : Nat) : cntL l (L.take k) ≤ k := by
  have h1 := cntL_le l (L.take k)
  have h2 : (L.take k).length ≤ k := by rw [List.length_take]; omega
  omega

/-- Each row is three points of the ring. -/
def Mem3 (l : List Int) (L : List (List Int)) : Prop := ∀ t ∈ L, ∃ x y z, t = [x, y, z] ∧ x ∈ l ∧ y ∈ l ∧ z ∈ l

set_option maxHeartbeats 1000000 in
theorem many_any (A : Option Addr) (n c H : Nat) (l : List Int) (A' : Option Addr) (m d H' : Nat) (L : List (List Int)) (w : World) (h : Rd w H A n l) (h' : RdS w H' A' m L) (h1 : 1 ≤ n) (hn : n ≤ 7) (hm : m ≤ 1000) (hM : Mem3 l L) :
    Calls Try.prog 100 #[.slice A n c, .slice A' m d] w fun e w' => e = .returned (.int .i64 (cntL l L : Nat)) ∧ ∃ q, w' = w.drewN q := by
  have HL := Lib.hid h'.len
  have HM := Lib.hid hM
  have HR := Lib.hid h
  clear hM h
  go_enter Try.func100, Try.ntmps100
  go_wp2
  go_loopw [5, 6] (fun s i wr => ∃ k : Nat, k ≤ m ∧ i = .int .i64 k ∧ s = .int .i64 (cntL l (L.take k) : Nat) ∧ RdS wr H' A' m L ∧ ∃ q, wr = w.drewN q) (fun _ i _ => m - (intOf i).toNat)
  case atStart => exact ⟨0, Nat.zero_le _, rfl, by simp [cntL], h', 0, rfl⟩
  case round =>
    obtain ⟨k, hk, rfl, rfl, hrd, q, hq⟩ := hrel
    have HQ := Lib.hid hq
    clear h'
    by_cases hlt : k < m
    · have hkl : k < L.length := by rw [HL.out]; exact hlt
      obtain ⟨b, o, rfl, hbB, hcs⟩ := hrd.at_ (by omega)
      obtain ⟨Ak, ck, hc, hr, _, _⟩ := hcs k hlt
      obtain ⟨x, y, z, e, hx, hy, hz⟩ := HM.out _ (rowK_mem hkl)
      rw [e] at hc hr
      have HC := Lib.hid (l2Has_any A n c H l Ak ck H' x y z wr (by rw [hq]; exact HR.out.drewN q) hr h1 hn hx hy hz)
      have HS := Lib.hid (cnt_step l L k hkl)
      rw [e] at HS
      have hle := cnt_take l L k
      clear hcs hr e hx hy hz hkl hq
      obtain ⟨s, hs⟩ : ∃ s, s = cntL l (L.take k) := ⟨_, rfl⟩
      rw [← hs] at hle HS ⊢
      clear hs
      change wr.cell? ⟨b, o + k, none⟩ = some (.slice Ak 3 ck) at hc
      cases hh : has3 l [x, y, z] with
      | true =>
        rw [hh] at HC HS
        clear hh
        go_wp2_with (go_at_call 71; refine HC.out.mono ?_; rintro e w' ⟨rfl, p, rfl⟩)
        go_roundw
        case rel => exact ⟨k + 1, by omega, by go_num, by rw [HS.out]; go_num, hrd.drewN _, q + p, by rw [HQ.out, World.drewN_drewN]⟩
        case measure => simp [intOf]; omega
      | false =>
        rw [hh] at HC HS
        clear hh
        go_wp2_with (go_at_call 71; refine HC.out.mono ?_; rintro e w' ⟨rfl, p, rfl⟩)
        go_roundw
        case rel => exact ⟨k + 1, by omega, by go_num, by rw [HS.out]; rfl, hrd.drewN _, q + p, by rw [HQ.out, World.drewN_drewN]⟩
        case measure => simp [intOf]; omega
    · obtain rfl : k = m := by omega
      have e : L.take k = L := List.take_of_length_le (by rw [HL.out]; omega)
      rw [e]
      go_wp2
      go_ret
      exact ⟨rfl, q, by first | rfl | exact HQ.out⟩

set_option maxRecDepth 10000 in
set_option maxHeartbeats 1000000 in
theorem agrees_any (l : List Int) (v : Value) (C : Nat) (L : List (List Int)) (w : World) (h : RowN w C 47 3 v L) (h1 : 1 ≤ l.length) (hl : l.length ≤ 7) (hp : ∀ x ∈ l, 0 ≤ x) (hm : L.length ≤ 1000) (hM : Mem3 l L) :
    Calls Try.prog 64 #[agp l, v] w fun e w' => e = .returned (.int .i64 (cntL l L : Nat)) ∧ Below w.heap.size w w' := by
  obtain ⟨A, c, rfl⟩ := h.slice
  obtain ⟨a0, a1, a2, a3, a4, a5, a6, hP⟩ := seven (padR_length l hl)
  have HH := Lib.hid (fun x y z W (hx : x ∈ l) (hy : y ∈ l) (hz : z ∈ l) => hasThree_any l x y z W h1 hl hp hx hy hz)
  unfold agp at HH ⊢
  rw [hP] at HH ⊢
  change Calls Try.prog 64 #[ag a0 a1 a2 a3 a4 a5 a6, .slice A L.length c] w _
  obtain ⟨m, hml⟩ : ∃ m, m = L.length := ⟨_, rfl⟩
  have HL := Lib.hid hml
  have HM := Lib.hid hM
  have HLT := Lib.hid (fun i hi => (h.lt i hi).2)
  have hw0 : Hid (Arr (w.alloc (.cells (ints [a0, a1, a2, a3, a4, a5, a6]).toArray 69)) w.heap.size [a0, a1, a2, a3, a4, a5, a6]) := heap_alloc_new w _
  have hr0 : Hid (RowN (w.alloc (.cells (ints [a0, a1, a2, a3, a4, a5, a6]).toArray 69)) C 47 3 (.slice A L.length c) L) := h.alloc _
  have hb0 : Below w.heap.size w (w.alloc (.cells (ints [a0, a1, a2, a3, a4, a5, a6]).toArray 69)) := (Below.refl _ _).alloc (Nat.le_refl _) _
  have hs0 : (w.alloc (.cells (ints [a0, a1, a2, a3, a4, a5, a6]).toArray 69)).heap.size = w.heap.size + 1 := by simp
  rw [← hml] at hm hr0 HLT ⊢
  clear h hM hml hP hp
  simp only [ints, List.map_cons, List.map_nil] at hw0 hr0 hb0 hs0
  go_enter Try.func64, Try.ntmps64
  go_wp2
  generalize hW0 : w.alloc (.cells #[.int .i64 a0, .int .i64 a1, .int .i64 a2, .int .i64 a3, .int .i64 a4, .int .i64 a5, .int .i64 a6] 69) = W0 at *
  clear hW0
  have HS0 := Lib.hid hs0
  clear hs0
  generalize hB : w.heap.size = B at *
  have HB := Lib.hid hB
  clear hB
  go_loopw [5, 10] (fun s i wr => ∃ k : Nat, k ≤ m ∧ i = .int .i64 k ∧ s = .int .i64 (cntL l (L.take k) : Nat) ∧ Hid (RowN wr C 47 3 (.slice A m c) L) ∧ Hid (Arr wr B [a0, a1, a2, a3, a4, a5, a6]) ∧ Below B w wr) (fun _ i _ => m - (intOf i).toNat)
  case atStart => exact ⟨0, Nat.zero_le _, rfl, by simp [cntL], hr0, hw0, hb0⟩
  case round =>
    obtain ⟨k, hk, rfl, rfl, hrd, harr, hbl⟩ := hrel
    clear hr0 hw0 hb0
    have hBw := harr.out.lt
    have HBL := Lib.hid hbl
    clear hbl
    by_cases hlt : k < m
    · have hkl : k < L.length := by rw [← HL.out]; exact hlt
      obtain ⟨g, c', e0, _, hgs, _, _, _, _⟩ := hrd.out.elem hkl
      rw [← HL.out] at e0
      injection e0 with e1 _ e3
      subst e3
      subst e1
      have HKL := Lib.hid hkl
      obtain ⟨x, y, z, e, hx, hy, hz⟩ := HM.out _ (rowK_mem hkl)
      have HE := Lib.hid e
      have HC := Lib.hid (fun W => HH.out x y z W hx hy hz)
      have HS := Lib.hid (cnt_step l L k hkl)
      rw [e] at HS
      have hle := cnt_take l L k
      have hlt1 := HLT.out g rfl
      clear e hx hy hz hkl
      obtain ⟨s, hs⟩ : ∃ s, s = cntL l (L.take k) := ⟨_, rfl⟩
      rw [← hs] at hle HS ⊢
      clear hs
      have HNT := Lib.hid (Blk.new (t := 47) wr [0, 0, 0])
      cases hh : has3 l [x, y, z] with
      | true =>
        rw [hh] at HC HS
        clear hh
        go_wp2_with (first
          | (refine load_elem rfl _ 47 rfl _ rfl Try.underlying47 g m c C k 3 L hrd HKL.out three_size rfl ?_; rw [HE.out])
          | (refine store_tri rfl _ _ rfl wr.heap.size zero3 [x, y, z] rfl rfl rfl rfl HNT ?_; intro w6 HB6 hg6 hs6; have h6 : Hid (Below wr.heap.size wr w6) := Lib.hid (((Below.refl _ _).alloc (Nat.le_refl _) _).grown hg6 (by simp) (by simp)); have HA6 := Lib.hid (harr.out.below h6.out hBw))
          | (refine load_ring rfl _ rfl B [a0, a1, a2, a3, a4, a5, a6] rfl rfl HA6 ?_)
          | (refine load_tri rfl _ rfl wr.heap.size [x, y, z] rfl rfl HB6 ?_)
          | (go_at_call 70; refine (HC.out _).mono ?_; rintro e w7 ⟨rfl, hb7⟩; have h7 : Hid (Below wr.heap.size wr w7) := Lib.hid (h6.out.trans (hb7.mono h6.out.size))))
        go_wp2
        go_roundw
        case rel => exact ⟨k + 1, by omega, by go_num, by rw [HS.out]; go_num, Lib.hid (hrd.out.below h7.out (fun i hi => (hrd.out.lt i hi).2)), Lib.hid (harr.out.below h7.out hBw), HBL.out.trans (h7.out.mono (by omega))⟩
        case measure => simp [intOf]; omega
      | false =>
        rw [hh] at HC HS
        clear hh
        go_wp2_with (first
          | (refine load_elem rfl _ 47 rfl _ rfl Try.underlying47 g m c C k 3 L hrd HKL.out three_size rfl ?_; rw [HE.out])
          | (refine store_tri rfl _ _ rfl wr.heap.size zero3 [x, y, z] rfl rfl rfl rfl HNT ?_; intro w6 HB6 hg6 hs6; have h6 : Hid (Below wr.heap.size wr w6) := Lib.hid (((Below.refl _ _).alloc (Nat.le_refl _) _).grown hg6 (by simp) (by simp)); have HA6 := Lib.hid (harr.out.below h6.out hBw))
          | (refine load_ring rfl _ rfl B [a0, a1, a2, a3, a4, a5, a6] rfl rfl HA6 ?_)
          | (refine load_tri rfl _ rfl wr.heap.size [x, y, z] rfl rfl HB6 ?_)
          | (go_at_call 70; refine (HC.out _).mono ?_; rintro e w7 ⟨rfl, hb7⟩; have h7 : Hid (Below wr.heap.size wr w7) := Lib.hid (h6.out.trans (hb7.mono h6.out.size))))
        go_wp2
        go_roundw
        case rel => exact ⟨k + 1, by omega, by go_num, by rw [HS.out]; rfl, Lib.hid (hrd.out.below h7.out (fun i hi => (hrd.out.lt i hi).2)), Lib.hid (harr.out.below h7.out hBw), HBL.out.trans (h7.out.mono (by omega))⟩
        case measure => simp [intOf]; omega
    · obtain rfl : k = m := by omega
      have e : L.take k = L := List.take_of_length_le (by rw [HL.out]; omega)
      rw [e]
      go_wp2
      go_ret
      exact ⟨rfl, by rw [HB.out]; exact HBL.out⟩

/-! ### All rings of n points -/
theorem IsR.mem3 {n : Nat} {l : List Int} (h : IsR n l) {L : List (List Int)} (hL : ∀ t ∈ L, Thr (n : Int) t) : Mem3 l L := fun t ht => by
  obtain ⟨x, y, z, rfl⟩ := of_three (hL t ht).1
  have hm := (hL _ ht).2.1
  exact ⟨x, y, z, rfl, h.2.2 x (hm x (by simp)).1 (hm x (by simp)).2, h.2.2 y (hm y (by simp)).1 (hm y (by simp)).2, h.2.2 z (hm z (by simp)).1 (hm z (by simp)).2⟩
end Go.Proofs.Ytdndddlikdccgaa

namespace Go.Proofs.Ytdndddlikdccgaa
open Go.ChangeShapes Go.WideShapes Go.ChangeAt Go.RowKit

def agreeL (n : Nat) (L : List (List Int)) : List (List Int) := (ringsL n).filter fun l => decide (cntL l L = L.length)
theorem agreeL_len (n : Nat) (L : List (List Int)) (h3 : 3 ≤ n) (h6 : n ≤ 6) : (agreeL n L).length ≤ 720 := by
  have h1 := List.length_filter_le (fun l => decide (cntL l L = L.length)) (ringsL n)
  rw [ringsL_length] at h1
  have := (facM_eq n h3 h6).2.1
  unfold agreeL; omega
def agreeTo (n : Nat) (L : List (List Int)) (k : Nat) : List (List Int) := ((List.range k).map fun j : Nat => byL n (j : Int)).filter fun l => decide (cntL l L = L.length)
theorem agreeTo_full (n : Nat) (L : List (List Int)) : agreeTo n L (facM n) = agreeL n L := rfl
theorem agreeTo_len (n : Nat) (L : List (List Int)) (k : Nat) : (agreeTo n L k).length ≤ k := by
  have h1 := List.length_filter_le (fun l => decide (cntL l L = L.length)) ((List.range k).map fun j : Nat => byL n (j : Int))
  simp only [List.length_map, List.length_range] at h1
  exact h1
theorem agreeTo_yes (n : Nat) (L : List (List Int)) (k : Nat) (h : cntL (byL n k) L = L.length) : agreeTo n L k ++ [byL n k] = agreeTo n L (k + 1) := by
  simp [agreeTo, List.range_succ, List.filter_append, h]
theorem agreeTo_no (n : Nat) (L : List (List Int)) (k : Nat) (h : ¬ cntL (byL n k) L = L.length) : agreeTo n L k = agreeTo n L (k + 1) := by
  simp [agreeTo, List.range_succ, List.filter_append, h]

/-- What is owned at its block's head is a row. -/
theorem Own.rowV {w : World} {B : Nat} {v : Value} {l : List Int} (h : Own w B v l) : RowV w B v l := by
  refine ⟨h.gen, ?_⟩
  rcases h.2 with ⟨e, h0⟩ | ⟨g, cap, cur, e, _, _, h2, h3, _⟩
  · exact ⟨none, 0, by rw [e, h0], by omega, by omega⟩
  · exact ⟨_, cap, e, h2, by unfold maxLen at h3; omega⟩

set_option maxRecDepth 10000 in
set_option maxHeartbeats 2000000 in
theorem l2Rings_any (A' : Option Addr) (m d H' : Nat) (n : Nat) (L : List (List Int)) (w : World) (h' : RdS w H' A' m L) (hH : H' ≤ w.heap.size) (h3 : 3 ≤ n) (h6 : n ≤ 6) (hm : m ≤ 1000) (hT : ∀ t ∈ L, Thr (n : Int) t) :
    Calls Try.prog 65 #[.int .i64 (n : Int), .slice A' m d] w fun e w' => ∃ v, e = .returned v ∧ GrowS w' w.heap.size v (agreeL n L) ∧ Below w.heap.size w w' := by
  obtain ⟨i0, hi, hz0, hz1, hz2⟩ := info_parts row_info
  obtain ⟨hf1, hf2, hf3, hf4⟩ := facM_eq n h3 h6
  have HL := Lib.hid h'.len
  have HTT := Lib.hid hT
  have hg0 : Hid (GrowS (w.alloc (.cells #[] 32)) w.heap.size (.slice (some ⟨w.heap.size, 0, none⟩) 0 0) []) := GrowS.empty w (Nat.le_refl _)
  have hb0 : Below w.heap.size w (w.alloc (.cells #[] 32)) := (Below.refl _ _).alloc (Nat.le_refl _) _
  have hr0 := Lib.hid (h'.below (hb0.mono hH))
  have HFM := Lib.hid hf1
  obtain ⟨N, hN⟩ : ∃ N, N = facM n := ⟨_, rfl⟩
  rw [← hN] at HFM hf2
  have HN := Lib.hid hN
  have hfk : ∀ k : Nat, k < N → (k : Int) < facN (n - 1) := fun k hk => by rw [← HFM.out]; omega
  have HFK := Lib.hid hfk
  have HFACT := Lib.hid (fun W => facS_nat (n - 1) ((n : Int) - 1) W (by omega) (by omega))
  rw [← HFM.out] at HFACT
  have HBY := Lib.hid (fun k (hk : k < N) W => byS_any n (k : Int) W h3 (by omega) (by omega) (hfk k hk))
  have HIS := Lib.hid (fun k (hk : k < N) => byL_is n k h3 h6 (by rw [← hN]; exact hk))
  clear hT h' hf1 hf3 hf4 hN hfk
  go_enter Try.func65, Try.ntmps65
  go_wp2
  generalize w.alloc (.cells #[] 32) = W0 at *
  have hBw0 := hb0.size
  generalize hB : w.heap.size = B at *
  have HB := Lib.hid hB
  clear hB
  go_loopw [5, 6] (fun v i wr => ∃ k : Nat, k ≤ N ∧ i = .int .i64 k ∧ Hid (GrowS wr B v (agreeTo n L k)) ∧ Hid (RdS wr H' A' m L) ∧ Below B w wr) (fun _ i _ => N - (intOf i).toNat)
  case atStart => exact ⟨0, Nat.zero_le _, rfl, by simpa [agreeTo, Hid] using hg0, hr0, hb0⟩
  case round =>
    obtain ⟨k, hk, rfl, hgs, hrd, hbl⟩ := hrel
    clear hg0 hr0 hb0
    have HBL := Lib.hid hbl
    have hBw : B ≤ wr.heap.size := by rw [← HB.out]; exact hbl.size
    clear hbl
    by_cases hlt : k < N
    · have HS := Lib.hid (HBY.out k hlt)
      have hI := HIS.out k hlt
      have HI := Lib.hid hI
      go_wp2_with fail
      refine (HFACT.out _).mono ?_
      rintro e w' ⟨rfl, rfl⟩
      go_wp2_with fail
      refine (HS.out _).mono ?_
      rintro e w2 ⟨vr, rfl, ho, hb2⟩
      obtain ⟨Ar, cr, rfl⟩ := ho.slice
      have hl : (byL n k).length = n := hI.1
      have HG2 := Lib.hid (hgs.out.below hb2 (Nat.le_refl _))
      have HR2 := Lib.hid (hrd.out.below (hb2.mono (by omega)))
      have HRV := Lib.hid (ho.rowV.less hBw)
      have HRD := Lib.hid ho.rd.2
      have HBL2 := Lib.hid (HBL.out.trans (hb2.mono hBw))
      have hs2 := hb2.size
      have HYES := Lib.hid (agreeTo_yes n L k)
      have HNO := Lib.hid (agreeTo_no n L k)
      have hkl := agreeTo_len n L k
      rw [hl] at HRV HRD ⊢
      have HMA := Lib.hid (many_any Ar n cr _ (byL n k) A' m d H' L w2 HRD.out HR2.out (by omega) (by omega) hm (HI.out.mem3 HTT.out))
      clear ho hb2 hI hgs hrd hl
      go_wp2_with fail
      refine HMA.out.mono ?_
      rintro e w3 ⟨rfl, p, rfl⟩
      have HG3 := Lib.hid (HG2.out.drewN p)
      have HRV3 : Hid (RowV (w2.drewN p) B (.slice Ar n cr) (byL n k)) := Lib.hid (HRV.out.same fun _ _ => rfl)
      have HR3 := Lib.hid (HR2.out.drewN p)
      have HBL3 := Lib.hid (below_drewN HBL2.out p)
      have hs3 : B ≤ (w2.drewN p).heap.size := Nat.le_trans hBw hs2
      clear HG2 HRV HR2 HBL2 HRD HMA HS
      obtain ⟨q, hq⟩ : ∃ q, q = cntL (byL n k) L := ⟨_, rfl⟩
      rw [← hq] at HYES HNO ⊢
      clear hq
      generalize w2.drewN p = w3 at *
      by_cases hqm : q = m
      · have hqe : ((q : Int) == (m : Int)) = true := by simp; omega
        have HST := Lib.hid (HYES.out (by rw [hqm, HL.out]))
        clear HYES HNO hqm
        obtain ⟨xs, hx1, hx2⟩ := HG3.out
        have HX1 := Lib.hid hx1
        have HX2 := Lib.hid hx2
        clear hx1 hx2
        go_wp2_with (at_builtin; refine wpList_append_own _ rfl _ _ 23 rfl B 32 i0 (.slice none 0 0) 1 24 Try.underlying23 hi hz0 hz1 hz2 rfl (by decide) _ _ _ rfl (HX1.out.alloc _) ⟨w3.heap.size, 0, none⟩ 1 1 [.slice Ar n cr] rfl rfl (one_cell w3 _ _) (by simp [Value.oneCell']) (by unfold maxLen; omega) (by omega) (by simp; omega) ?_)
        intro v' w5 hown5 hgr5 _
        have HG5 := Lib.hid (grow_row rfl HX1.out HX2.out HRV3.out _ hown5 hgr5)
        rw [HST.out] at HG5
        have HB5 := Lib.hid ((HBL3.out.alloc hs3 _).grown hgr5 (by simp; omega) (fun i hi => (HX1.out.lt i hi).1))
        have HR5 := Lib.hid (HR3.out.below (((Below.refl H' w3).alloc (by omega) _).grown hgr5 (by simp; omega) (fun i hi => by have := (HX1.out.lt i hi).1; omega)))
        clear hown5 hgr5
        go_wp2
        go_roundw
        case rel => exact ⟨k + 1, by omega, by go_num, HG5, HR5, HB5.out⟩
        case measure => simp [intOf]; omega
      · have hqe : ((q : Int) == (m : Int)) = false := by simp; omega
        have HST := Lib.hid (HNO.out (by rw [HL.out]; exact hqm))
        clear HYES HNO hqm
        rw [HST.out] at HG3
        go_wp2
        go_roundw
        case rel => exact ⟨k + 1, by omega, by go_num, HG3, HR3, HBL3.out⟩
        case measure => simp [intOf]; omega
    · obtain rfl : k = N := by omega
      go_wp2_with fail
      refine (HFACT.out _).mono ?_
      rintro e w' ⟨rfl, rfl⟩
      rw [HN.out, agreeTo_full] at hgs
      go_wp2
      go_ret
      exact ⟨_, rfl, by rw [HB.out]; exact hgs.out, by rw [HB.out]; exact HBL.out⟩
end Go.Proofs.Ytdndddlikdccgaa

namespace Go.Proofs.Ytdndddlikdccgaa
open Go.ChangeShapes Go.WideShapes Go.ChangeAt Go.RowKit

set_option maxRecDepth 10000 in
set_option maxHeartbeats 1000000 in
theorem agreeing1_any (l : List Int) (bx : Nat) (v : Value) (C : Nat) (L : List (List Int)) (w : World) (hbx : w.cell? ⟨bx, 0, none⟩ = some v) (h : RowN w C 47 3 v L) (h1 : 1 ≤ l.length) (hl : l.length ≤ 7) (hp : ∀ x ∈ l, 0 ≤ x) (hm : L.length ≤ 1000) (hM : Mem3 l L) :
    Calls Try.prog 95 #[.agg (ints (padR l)).toArray, .pointer (some ⟨bx, 0, none⟩)] w fun e w' => e = .returned (.bool (decide (cntL l L < L.length))) ∧ Below w.heap.size w w' := by
  obtain ⟨A, c, rfl⟩ := h.slice
  obtain ⟨W, hW⟩ : ∃ W, W = w.alloc (.cells (ints (padR l)).toArray 69) := ⟨_, rfl⟩
  have hbw : bx < w.heap.size := World.block_lt_of_cell? w _ hbx
  have k1 : Arr W w.heap.size (padR l) := by rw [hW]; exact heap_alloc_new w _
  have kb : Below w.heap.size w W := by rw [hW]; exact (Below.refl _ _).alloc (Nat.le_refl _) _
  have k2 : W.heap.size = w.heap.size + 1 := by rw [hW]; simp
  have k3 : W.cell? ⟨bx, 0, none⟩ = some (.slice A L.length c) := (kb.cell (p := ⟨bx, 0, none⟩) hbw).trans hbx
  have HA := Lib.hid (fun V (hV : Below W.heap.size W V) => agrees_any l (.slice A L.length c) C L V ((h.below kb (fun i hi => (h.lt i hi).2)).below hV (fun i hi => by have := (h.lt i hi).2; omega)) h1 hl hp hm hM)
  obtain ⟨a0, a1, a2, a3, a4, a5, a6, hP⟩ := seven (padR_length l hl)
  unfold agp at HA
  rw [hP] at HA k1 hW ⊢
  change Calls Try.prog 95 #[ag a0 a1 a2 a3 a4 a5 a6, .pointer (some ⟨bx, 0, none⟩)] w _
  have HK := Lib.hid (fun V (hV : Below W.heap.size W V) => (⟨cells7 (k1.below hV (by omega)), (hV.cell (p := ⟨bx, 0, none⟩) (by simp; omega)).trans k3⟩ : _ ∧ _))
  have HB := Lib.hid kb
  obtain ⟨q, hq⟩ : ∃ q, q = cntL l L := ⟨_, rfl⟩
  rw [← hq] at HA ⊢
  obtain ⟨m, hml⟩ : ∃ m, m = L.length := ⟨_, rfl⟩
  rw [← hml] at HA HK hm k3 ⊢
  have hqm : q ≤ m := by rw [hq, hml]; exact cntL_le l L
  simp only [ints, List.map_cons, List.map_nil] at hW HA
  clear h hM hp hP hq hml k1 k3 hbx kb
  have HSZ := Lib.hid k2
  have hBW : w.heap.size < W.heap.size := by omega
  clear k2
  go_enter Try.func95, Try.ntmps95
  go_wp2
  rw [← hW]
  clear hW
  generalize hB : w.heap.size = B at *
  have HBB := Lib.hid hB
  clear hB
  have HST := Lib.hid (fun (V V' : World) (h1 : Below W.heap.size W V) (h2 : Below V.heap.size V V') => h1.trans (h2.mono (by have := h1.size; omega)))
  go_region_held3 (fun V => (V.cell? ⟨B, 0, none⟩ = some (.int .i64 a0) ∧ V.cell? ⟨B, 1, none⟩ = some (.int .i64 a1) ∧ V.cell? ⟨B, 2, none⟩ = some (.int .i64 a2) ∧ V.cell? ⟨B, 3, none⟩ = some (.int .i64 a3) ∧ V.cell? ⟨B, 4, none⟩ = some (.int .i64 a4) ∧ V.cell? ⟨B, 5, none⟩ = some (.int .i64 a5) ∧ V.cell? ⟨B, 6, none⟩ = some (.int .i64 a6)) ∧ V.cell? ⟨bx, 0, none⟩ = some (.slice A m c))
    (first
      | exact HK.out _ (Below.refl _ _).drew
      | exact HK.out _ HB1.out)
    (first
      | (go_at_call 64; refine (HA.out _ (Below.refl _ W).drew).mono ?_; rintro e w5 ⟨rfl, hb⟩; have HB1 := Lib.hid (HST.out _ _ (Below.refl _ W).drew hb); clear hb))
  all_goals
    go_wp2
    go_ret
    exact ⟨rfl, by rw [HBB.out]; exact HB.out.trans (HB1.out.mono (by omega))⟩

set_option maxRecDepth 10000 in
set_option maxHeartbeats 1000000 in
theorem agreeing_any (n : Nat) (v : Value) (C : Nat) (L : List (List Int)) (w : World) (h : RowN w C 47 3 v L) (h3 : 3 ≤ n) (h6 : n ≤ 6) (hm : L.length ≤ 1000) (hT : ∀ t ∈ L, Thr (n : Int) t) :
    Calls Try.prog 59 #[.int .i64 (n : Int), v] w fun e w' => ∃ v', e = .returned v' ∧ RowN w' w.heap.size 69 7 v' (padM (agreeL n L)) ∧ Below w.heap.size w w' := by
  obtain ⟨A, c, rfl⟩ := h.slice
  obtain ⟨W, hW⟩ : ∃ W, W = w.alloc (.cells #[.slice A L.length c] 41) := ⟨_, rfl⟩
  have kb : Below w.heap.size w W := by rw [hW]; exact (Below.refl _ _).alloc (Nat.le_refl _) _
  have k2 : W.heap.size = w.heap.size + 1 := by rw [hW]; simp
  have k3 : W.cell? ⟨w.heap.size, 0, none⟩ = some (.slice A L.length c) := by rw [hW]; simp
  have k4 := h.below kb (fun i hi => (h.lt i hi).2)
  have HF : Hid (∀ V, Below W.heap.size W V → ∀ P ∈ padM (ringsL n), Calls Try.prog 95 #[.agg (ints P).toArray, .pointer (some ⟨w.heap.size, 0, none⟩)] V fun e w' => e = .returned (.bool (decide (cntL (unpad P) L < L.length))) ∧ Below V.heap.size V w') := fun V hV P hP => by
    simp only [padM, List.mem_map] at hP
    obtain ⟨l, hl, rfl⟩ := hP
    have hI := ringsL_is n h3 h6 l hl
    rw [unpad_pad l hI.2.1]
    exact agreeing1_any l w.heap.size _ C L V ((hV.cell (p := ⟨w.heap.size, 0, none⟩) (by simp; omega)).trans k3) (k4.below hV (fun i hi => by have := (h.lt i hi).2; omega)) (by rw [hI.1]; omega) (by rw [hI.1]; omega) hI.2.1 hm (hI.mem3 hT)
  have hpl : (padM (ringsL n)).length ≤ 1000 := by have := (facM_eq n h3 h6).2.1; simp [padM, ringsL_length]; omega
  have HPL := Lib.hid hpl
  have HR : Hid ((padM (ringsL n)).filter (fun P => !decide (cntL (unpad P) L < L.length)) = padM (agreeL n L)) := by
    rw [Hid, filter_pad (ringsL n) (fun l => !decide (cntL l L < L.length)) (fun l hl => (ringsL_is n h3 h6 l hl).2.1)]
    congr 1
    unfold agreeL
    congr 1
    funext l
    have := cntL_le l L
    simp only [← decide_not, decide_eq_decide]
    omega
  clear h hT k3 k4 hpl
  have HB := Lib.hid kb
  have HSZ := Lib.hid k2
  have hBW : w.heap.size ≤ W.heap.size := by omega
  clear kb k2
  go_enter Try.func59, Try.ntmps59
  go_wp2_with fail
  rw [← hW]
  clear hW
  generalize hBB : w.heap.size = B at *
  have HBB := Lib.hid hBB
  clear hBB
  refine (allRings_any n W h3 h6).mono ?_
  rintro e w1 ⟨v1, rfl, hr1, hb1⟩
  have HR1 := Lib.hid hr1
  have HB1 := Lib.hid hb1
  have hs1 := hb1.size
  clear hr1 hb1
  go_wp2_with fail
  refine (deleteF_ring 95 (enters_fn Try.func95 (by decide) rfl) (.pointer (some ⟨B, 0, none⟩)) (fun P => decide (cntL (unpad P) L < L.length)) W.heap.size v1 _ w1 HR1.out hs1 HPL.out (fun V hV => HF.out V (HB1.out.trans hV))).mono ?_
  rintro e w2 ⟨v2, rfl, hr2, hb2⟩
  rw [HR.out] at hr2
  go_wp2
  go_ret
  exact ⟨_, rfl, by rw [HBB.out]; exact hr2.less hBW, by rw [HBB.out]; exact (HB.out.trans (HB1.out.mono hBW)).trans (hb2.mono hBW)⟩
end Go.Proofs.Ytdndddlikdccgaa

namespace Go.Proofs.Ytdndddlikdccgaa
open Go.ChangeShapes Go.WideShapes Go.ChangeAt Go.RowKit

def sharedL (n : Nat) (R : List (List Int)) : List (List Int) := (everyL n).filter fun t => R.all fun l => has3 l t

set_option maxRecDepth 10000 in
set_option maxHeartbeats 1000000 in
theorem shared11_any (l : List Int) (bt : Nat) (x y z : Int) (w : World) (hbt : Tri w bt [x, y, z]) (h1 : 1 ≤ l.length) (hl : l.length ≤ 7) (hp : ∀ x ∈ l, 0 ≤ x) (hx : x ∈ l) (hy : y ∈ l) (hz : z ∈ l) :
    Calls Try.prog 92 #[.agg (ints (padR l)).toArray, .pointer (some ⟨bt, 0, none⟩)] w fun e w' => e = .returned (.bool (!has3 l [x, y, z])) ∧ Below w.heap.size w w' := by
  have HC := Lib.hid (fun W => hasThree_any l x y z W h1 hl hp hx hy hz)
  have H7 := Lib.hid (padR_length l hl)
  have HA := Lib.hid (heap_alloc_new w (.cells (ints (padR l)).toArray 69))
  have HT := Lib.hid (hbt.alloc (.cells (ints (padR l)).toArray 69))
  obtain ⟨a0, a1, a2, a3, a4, a5, a6, hP⟩ := seven H7.out
  unfold agp at HC
  rw [hP] at HC HA HT ⊢
  change Hid (Arr _ w.heap.size [a0, a1, a2, a3, a4, a5, a6]) at HA
  change Hid (Tri _ bt [x, y, z]) at HT
  simp only [ints, List.map_cons, List.map_nil] at HA HT HC
  change Calls Try.prog 92 #[ag a0 a1 a2 a3 a4 a5 a6, .pointer (some ⟨bt, 0, none⟩)] w _
  have hbw : bt < w.heap.size := hbt.lt
  clear hbt hP H7 hp hx hy hz
  obtain ⟨r, hr⟩ : ∃ r, r = has3 l [x, y, z] := ⟨_, rfl⟩
  rw [← hr] at HC ⊢
  clear hr
  go_enter Try.func92, Try.ntmps92
  go_wp2_with (first
    | (refine load_ring rfl _ rfl w.heap.size [a0, a1, a2, a3, a4, a5, a6] rfl rfl HA ?_)
    | (refine load_tri rfl _ rfl bt [x, y, z] rfl rfl HT ?_)
    | (go_at_call 70; refine (HC.out _).mono ?_; rintro e w5 ⟨rfl, hb5⟩))
  go_ret
  exact ⟨rfl, ((Below.refl _ _).alloc (Nat.le_refl _) _).trans (hb5.mono (by simp))⟩

set_option maxRecDepth 10000 in
set_option maxHeartbeats 1000000 in
theorem containsF_any (fid : Nat) (hE : ∀ args w, (callFunc fid args).run Try.prog w = .ok (.enter fid args) w) (cap : Value) (p : List Int → Bool) (D E : Nat) (v : Value) (M : List (List Int)) (w : World) (h : RowN w D 69 7 v M) (hD : E ≤ w.heap.size) (hM : M.length ≤ 1000)
    (hf : ∀ W, Below E w W → ∀ l ∈ M, Calls Try.prog fid #[.agg (ints l).toArray, cap] W fun e w' => e = .returned (.bool (p l)) ∧ Below W.heap.size W w') :
    Calls Try.prog 91 #[v, .func (.func fid) #[] #[cap]] w fun e w' => e = .returned (.bool (M.any p)) ∧ Below w.heap.size w w' := by
  have HI := Lib.hid (indexF_ring fid hE cap p D E v M w h hD hM hf)
  have hv : decide (0 ≤ idxR p M) = M.any p := by
    unfold idxR
    cases hany : M.any p with
    | true =>
      have : M.findIdx p < M.length := by
        rw [List.findIdx_lt_length]
        simpa [List.any_eq_true] using hany
      rw [if_pos this]; simp
    | false =>
      rw [if_neg]
      · rfl
      · rw [List.findIdx_lt_length]
        rintro ⟨l, hl, hp⟩
        have := List.any_eq_true.2 ⟨l, hl, hp⟩
        rw [hany] at this; cases this
  rw [← hv]
  clear h hf hv
  generalize idxR p M = i at *
  go_enter Try.func91, Try.ntmps91
  go_wp2_with (go_at_call 116; refine HI.out.mono ?_; rintro e w5 ⟨rfl, hb5⟩)
  go_ret
  exact ⟨rfl, hb5⟩

set_option maxRecDepth 10000 in
set_option maxHeartbeats 1000000 in
theorem shared1_any (n : Nat) (bx : Nat) (v : Value) (D : Nat) (R : List (List Int)) (t : List Int) (w : World) (hbx : w.cell? ⟨bx, 0, none⟩ = some v) (h : RowN w D 69 7 v (padM R)) (hR : ∀ l ∈ R, IsR n l) (h3 : 3 ≤ n) (h7 : n ≤ 7) (hm : R.length ≤ 1000) (ht : Thr (n : Int) t) :
    Calls Try.prog 90 #[.agg (ints t).toArray, .pointer (some ⟨bx, 0, none⟩)] w fun e w' => e = .returned (.bool (!R.all fun l => has3 l t)) ∧ Below w.heap.size w w' := by
  obtain ⟨x, y, z, rfl⟩ := of_three ht.1
  have hM3 := fun l (hl : l ∈ R) => (hR l hl).mem3 (L := [[x, y, z]]) (fun r hr => by rw [List.mem_singleton.1 hr]; exact ht)
  have hbw : bx < w.heap.size := World.block_lt_of_cell? w _ hbx
  have hE := enters_fn Try.func92 (by decide) rfl
  obtain ⟨W, hW⟩ : ∃ W, W = w.alloc (.cells (ints [x, y, z]).toArray 47) := ⟨_, rfl⟩
  have kb : Below w.heap.size w W := by rw [hW]; exact (Below.refl _ _).alloc (Nat.le_refl _) _
  have k1 : Tri W w.heap.size [x, y, z] := by rw [hW]; exact Blk.new w _
  have k2 : W.heap.size = w.heap.size + 1 := by rw [hW]; simp
  have k3 : W.cell? ⟨bx, 0, none⟩ = some v := (kb.cell (p := ⟨bx, 0, none⟩) hbw).trans hbx
  have k4 := h.below kb (fun i hi => (h.lt i hi).2)
  have HCF := Lib.hid (containsF_any 92 hE (.pointer (some ⟨w.heap.size, 0, none⟩)) (fun P => !has3 (unpad P) [x, y, z]) D W.heap.size v (padM R) W k4 (Nat.le_refl _) (by simpa [padM] using hm) (fun V hV P hP => by
    simp only [padM, List.mem_map] at hP
    obtain ⟨l, hl, rfl⟩ := hP
    have hI := hR l hl
    rw [unpad_pad l hI.2.1]
    obtain ⟨x', y', z', e, gx, gy, gz⟩ := hM3 l hl [x, y, z] (by simp)
    injection e with e4 e5
    injection e5 with e5 e6
    injection e6 with e6 _
    subst e4; subst e5; subst e6
    exact shared11_any l w.heap.size x y z V (k1.below hV (by omega)) (by rw [hI.1]; omega) (by rw [hI.1]; omega) hI.2.1 gx gy gz))
  have hany : (padM R).any (fun P => !has3 (unpad P) [x, y, z]) = !R.all fun l => has3 l [x, y, z] := by
    have e : ∀ R : List (List Int), (∀ l ∈ R, IsR n l) → (padM R).any (fun P => !has3 (unpad P) [x, y, z]) = !R.all fun l => has3 l [x, y, z] := by
      intro R hR
      induction R with
      | nil => rfl
      | cons l R ih =>
        have ih' := ih (fun r hr => hR r (by simp [hr]))
        simp only [padM, List.map_cons, List.any_cons, List.all_cons] at ih' ⊢
        rw [ih', unpad_pad l (hR l (by simp)).2.1, Bool.not_and]
    exact e R hR
  rw [hany] at HCF
  simp only [ints, List.map_cons, List.map_nil] at hW
  have k3w := k3
  rw [hW] at k3w
  change Calls Try.prog 90 #[.agg #[.int .i64 x, .int .i64 y, .int .i64 z], .pointer (some ⟨bx, 0, none⟩)] w _
  have HKB := Lib.hid kb
  have HSZ := Lib.hid k2
  clear h hR hM3 k1 k2 k4 hany kb hE hbx ht
  obtain ⟨r, hr⟩ : ∃ r, r = R.all (fun l => has3 l [x, y, z]) := ⟨_, rfl⟩
  rw [← hr] at HCF ⊢
  clear hr
  go_enter Try.func90, Try.ntmps90
  go_wp2_with fail
  rw [← hW]
  refine HCF.out.mono ?_
  rintro e w5 ⟨rfl, hb5⟩
  go_wp2
  go_ret
  exact ⟨rfl, HKB.out.trans (hb5.mono (by have := HSZ.out; omega))⟩

set_option maxRecDepth 10000 in
set_option maxHeartbeats 1000000 in
theorem shared_any (n : Nat) (v : Value) (D : Nat) (R : List (List Int)) (w : World) (h : RowN w D 69 7 v (padM R)) (hR : ∀ l ∈ R, IsR n l) (h3 : 3 ≤ n) (h7 : n ≤ 7) (hm : R.length ≤ 1000) :
    Calls Try.prog 58 #[.int .i64 (n : Int), v] w fun e w' => ∃ v', e = .returned v' ∧ RowN w' w.heap.size 47 3 v' (sharedL n R) ∧ Below w.heap.size w w' := by
  obtain ⟨A, c, rfl⟩ := h.slice
  obtain ⟨W, hW⟩ : ∃ W, W = w.alloc (.cells #[.slice A (padM R).length c] 59) := ⟨_, rfl⟩
  have kb : Below w.heap.size w W := by rw [hW]; exact (Below.refl _ _).alloc (Nat.le_refl _) _
  have k2 : W.heap.size = w.heap.size + 1 := by rw [hW]; simp
  have k3 : W.cell? ⟨w.heap.size, 0, none⟩ = some (.slice A (padM R).length c) := by rw [hW]; simp
  have k4 := h.below kb (fun i hi => (h.lt i hi).2)
  have HF : Hid (∀ V, Below W.heap.size W V → ∀ t ∈ everyL n, Calls Try.prog 90 #[.agg (ints t).toArray, .pointer (some ⟨w.heap.size, 0, none⟩)] V fun e w' => e = .returned (.bool (!R.all fun l => has3 l t)) ∧ Below V.heap.size V w') := fun V hV t ht =>
    shared1_any n w.heap.size _ D R t V ((hV.cell (p := ⟨w.heap.size, 0, none⟩) (by simp; omega)).trans k3) (k4.below hV (fun i hi => by have := (h.lt i hi).2; omega)) hR h3 h7 hm ((every_thr n t).1 ht)
  have HEL := Lib.hid (everyL_len n h7)
  have HR : Hid ((everyL n).filter (fun t => !(!R.all fun l => has3 l t)) = sharedL n R) := by simp [Hid, sharedL]
  have hE := Lib.hid (enters_fn Try.func90 (by decide) rfl)
  clear h hR k3 k4
  have HB := Lib.hid kb
  have hBW : w.heap.size ≤ W.heap.size := by omega
  clear kb k2
  generalize (padM R).length = z at *
  go_enter Try.func58, Try.ntmps58
  go_wp2_with fail
  rw [← hW]
  clear hW
  generalize hBB : w.heap.size = B at *
  have HBB := Lib.hid hBB
  clear hBB
  refine (allThrees_any n W h7).mono ?_
  rintro e w1 ⟨v1, rfl, hr1, hb1⟩
  have HR1 := Lib.hid hr1
  have HB1 := Lib.hid hb1
  have hs1 := hb1.size
  clear hr1 hb1
  go_wp2_with fail
  refine (deleteF_three 90 hE.out (.pointer (some ⟨B, 0, none⟩)) (fun t => !R.all fun l => has3 l t) W.heap.size v1 _ w1 HR1.out hs1 (by have := HEL.out; omega) (fun V hV => HF.out V (HB1.out.trans hV))).mono ?_
  rintro e w2 ⟨v2, rfl, hr2, hb2⟩
  rw [HR.out] at hr2
  go_wp2
  go_ret
  exact ⟨_, rfl, by rw [HBB.out]; exact hr2.less hBW, by rw [HBB.out]; exact (HB.out.trans (HB1.out.mono hBW)).trans (hb2.mono hBW)⟩
end Go.Proofs.Ytdndddlikdccgaa

namespace Go.Proofs.Ytdndddlikdccgaa
open Go.ChangeShapes Go.WideShapes Go.ChangeAt Go.RowKit

def inB (l t : List Int) : Bool := ringB l && thr l.length t && has3 l t

theorem thr_mem {l t : List Int} (h : Tell l) (ht : Thr l.length t) : ∃ x y z, t = [x, y, z] ∧ x ∈ l ∧ y ∈ l ∧ z ∈ l := by
  obtain ⟨x, y, z, rfl⟩ := of_three ht.1
  have hm := ht.2.1
  exact ⟨x, y, z, rfl, h.has (hm x (by simp)).1 (hm x (by simp)).2, h.has (hm y (by simp)).1 (hm y (by simp)).2, h.has (hm z (by simp)).1 (hm z (by simp)).2⟩

set_option maxRecDepth 10000 in
set_option maxHeartbeats 2000000 in
theorem tiI_any (A : Option Addr) (n c : Nat) (A' : Option Addr) (m d H : Nat) (l t : List Int) (w : World) (h : Rd w H A n l) (h' : Rd w H A' m t) (hH : H ≤ w.heap.size) (hn : n ≤ 1048576) (_ : m ≤ 1048576) (hnc : n ≤ c) (hcm : c ≤ 9223372036854775807) (hmd : m ≤ d) (hdm : d ≤ 9223372036854775807) :
    Calls Try.prog 33 #[.slice A n c, .slice A' m d] w fun e w' => e = .returned (.bool (inB l t)) ∧ Below w.heap.size w w' := by
  have HL := Lib.hid h.len
  have HR := Lib.hid (readR_any A n c H l w h hH hn hnc hcm)
  have H7 := Lib.hid (ringP_length l)
  have HQ3 := Lib.hid (thrL_length (n : Int) t)
  obtain ⟨P, hP⟩ : ∃ P, P = ringP l := ⟨_, rfl⟩
  obtain ⟨T, hT⟩ : ∃ T, T = thrL (n : Int) t := ⟨_, rfl⟩
  have HT := Lib.hid (fun W (hR : Rd W H A' m t) (hW : H ≤ W.heap.size) => readThree_any A' m d H t (n : Int) W hR hW hmd hdm)
  rw [← hP] at HR H7
  rw [← hT] at HT HQ3
  have HP := Lib.hid hP
  have HTT := Lib.hid hT
  obtain ⟨rb, hrb⟩ : ∃ rb, rb = ringB l := ⟨_, rfl⟩
  obtain ⟨tb, htb⟩ : ∃ tb, tb = thr (n : Int) t := ⟨_, rfl⟩
  rw [← hrb] at HR
  rw [← htb] at HT
  have HRB := Lib.hid hrb
  have HTB := Lib.hid htb
  have HX : Hid (inB l t = (rb && (tb && has3 l t))) := by rw [HRB.out, HTB.out, ← HL.out]; simp [Hid, inB, Bool.and_assoc]
  have HG : Hid (rb = true → tb = true → ∃ x y z, t = [x, y, z] ∧ P = padR l ∧ T = [x, y, z] ∧ 1 ≤ l.length ∧ l.length ≤ 7 ∧ (∀ x ∈ l, 0 ≤ x) ∧ x ∈ l ∧ y ∈ l ∧ z ∈ l) := by
    intro e1 e2
    have hr : Ring l := by have := HRB.out; rw [e1] at this; simpa [ringB] using this.symm
    have ht : Thr (n : Int) t := by have := HTB.out; rw [e2] at this; simpa [thr] using this.symm
    obtain ⟨x, y, z, rfl, hx, hy, hz⟩ := thr_mem hr.1 (by rw [HL.out]; exact ht)
    exact ⟨x, y, z, rfl, by rw [HP.out, ringP, if_pos hr], by rw [HTT.out, (thr_yes ht).2], by have := hr.1.1; omega, hr.1.2.1, hr.1.pos, hx, hy, hz⟩
  rw [HX.out]
  clear hP hT hrb htb h HL
  go_enter Try.func33, Try.ntmps33
  go_wp2_with fail
  refine HR.out.mono ?_
  rintro e W1 ⟨rfl, hb1⟩
  have HA := Lib.hid (new_ring W1)
  have hR1 := h'.below (hb1.mono hH)
  have hs1 := hb1.size
  clear HR h'
  go_wp2_with (first
    | (refine store_ring rfl _ _ rfl W1.heap.size zero7 P rfl H7.out rfl rfl HA ?_; intro w2 HA2 hg2 hs2; have hb2 : Hid (Below W1.heap.size W1 w2) := Lib.hid (((Below.refl _ _).alloc (Nat.le_refl _) _).grown hg2 (by simp) (by simp))))
  have hs2' := hb2.out.size
  have HB2 := Lib.hid (hb1.trans (hb2.out.mono hs1))
  have HT2 := Lib.hid (HT.out w2 (hR1.below (hb2.out.mono (by omega))) (by omega))
  have hlt2 := HA2.out.lt
  clear hb2 hg2 hs2 HA hR1 hb1 HT
  refine HT2.out.mono ?_
  rintro e W3 ⟨rfl, hb3⟩
  have HA3 := Lib.hid (HA2.out.below hb3 hlt2)
  have HN := Lib.hid (new_tri W3)
  have hs3 := hb3.size
  have HB3 := Lib.hid (HB2.out.trans (hb3.mono (by omega)))
  clear HT2 HA2 HB2 hb3
  obtain ⟨a0, a1, a2, a3, a4, a5, a6, rfl⟩ := seven H7.out
  obtain ⟨x, y, z, rfl⟩ := of_three HQ3.out
  generalize hG : W1.heap.size = G at *
  cases rb with
  | false =>
    go_wp2_with (refine store_tri rfl _ _ rfl W3.heap.size zero3 [x, y, z] rfl rfl rfl rfl HN ?_; intro w4 HT4 hg4 hs4)
    go_ret
    exact ⟨rfl, (HB3.out.alloc (by omega) _).grown hg4 (by simp; omega) (by simp; omega)⟩
  | true =>
    cases tb with
    | false =>
      go_wp2_with (refine store_tri rfl _ _ rfl W3.heap.size zero3 [x, y, z] rfl rfl rfl rfl HN ?_; intro w4 HT4 hg4 hs4)
      go_ret
      exact ⟨rfl, (HB3.out.alloc (by omega) _).grown hg4 (by simp; omega) (by simp; omega)⟩
    | true =>
      obtain ⟨x', y', z', rfl, e2, e3, g1, g7, gp, gx, gy, gz⟩ := HG.out rfl rfl
      injection e3 with e4 e5
      injection e5 with e5 e6
      injection e6 with e6 _
      subst e4; subst e5; subst e6
      have HH := Lib.hid (fun W => hasThree_any l x y z W g1 g7 gp gx gy gz)
      unfold agp at HH
      rw [← e2] at HH
      obtain ⟨r, hr⟩ : ∃ r, r = has3 l [x, y, z] := ⟨_, rfl⟩
      rw [← hr] at HH
      have HRR := Lib.hid hr
      clear hr e2 gp gx gy gz HG HP HTT HRB HTB HX
      go_wp2_with (first
        | (refine store_tri rfl _ _ rfl W3.heap.size zero3 [x, y, z] rfl rfl rfl rfl HN ?_; intro w4 HT4 hg4 hs4; have HA4 := (HA3.out.alloc (.cells #[.int .i64 0, .int .i64 0, .int .i64 0] 47)).grown hg4 (by have := HA3.out.lt; omega); obtain ⟨d0, d1, d2, d3, d4, d5, d6⟩ := cells7 HA4; have t0 := HT4.out.cell (i := 0) (by simp); have t1 := HT4.out.cell (i := 1) (by simp); have t2 := HT4.out.cell (i := 2) (by simp); simp only [List.getD_cons_zero, List.getD_cons_succ] at t0 t1 t2; clear HA4)
        | (go_at_call 70; refine (HH.out _).mono ?_; rintro e w5 ⟨rfl, hb5⟩))
      go_ret
      exact ⟨by rw [← HRR.out]; rfl, ((HB3.out.alloc (by omega) _).grown hg4 (by simp; omega) (by simp; omega)).trans (hb5.mono (by rw [hs4]; simp; omega))⟩
end Go.Proofs.Ytdndddlikdccgaa

namespace Go.Proofs.Ytdndddlikdccgaa
open Go.ChangeShapes Go.WideShapes Go.ChangeAt Go.RowKit

/-- The three the other way. -/
def turn3 (l : List Int) : List Int := [l.getD 0 0, l.getD 2 0, l.getD 1 0]
def back3 (L : List (List Int)) : List (List Int) := L.map turn3
def backT (n : Int) (L : List (List Int)) : List (List Int) := if Tel n L then back3 L else []
theorem sumTo_small (L : List (List Int)) (h : ∀ l ∈ L, l.length ≤ 7) : ∀ k, k ≤ L.length → sumTo L k ≤ 7 * k
  | 0, _ => by simp [sumTo]
  | k + 1, hk => by
    have h1 := sumTo_small L h k (by omega)
    have h2 := h _ (rowK_mem (show k < L.length by omega))
    simp only [sumTo]; omega
theorem tot_small (L : List (List Int)) (h : ∀ l ∈ L, l.length ≤ 7) (hl : L.length ≤ 1000) : tot L ≤ 1048576 := by
  have := sumTo_small L h L.length (Nat.le_refl _)
  unfold tot; omega
theorem backT_tot (n : Int) (L : List (List Int)) : tot (backT n L) ≤ 1048576 := by
  unfold backT
  split
  · rename_i h
    refine tot_small _ (fun l hl => ?_) (by have := h.2.2.1; simp [back3]; omega)
    simp only [back3, List.mem_map] at hl
    obtain ⟨m, _, rfl⟩ := hl
    simp [turn3]
  · simp [tot, sumTo]
theorem back3_step (L : List (List Int)) (k : Nat) (h : k < L.length) : back3 (L.take k) ++ [turn3 (rowK L k)] = back3 (L.take (k + 1)) := by
  unfold back3
  rw [List.take_succ_eq_append_getElem h, List.map_append]
  simp only [rowK, List.getD, List.getElem?_eq_getElem h, Option.getD_some, List.map_cons, List.map_nil]

set_option maxRecDepth 10000 in
set_option maxHeartbeats 1000000 in
theorem b3S_any (A : Option Addr) (n c H : Nat) (q : Int) (L : List (List Int)) (w : World) (h : RdS w H A n L) (hH : H ≤ w.heap.size) (hn : tot L ≤ 1048576) :
    Calls Try.prog 43 #[.int .i64 q, .slice A n c] w fun e w' => ∃ v, e = .returned (.tuple #[v, .bool (tel q L)]) ∧ (∃ A c, v = .slice A (backT q L).length c ∧ RdS w' w'.heap.size A (backT q L).length (backT q L)) ∧ Below w.heap.size w w' := by
  obtain ⟨i0, hi, hz0, hz1, hz2⟩ := info_parts row_info
  have HL := Lib.hid h.len
  have hnb : n ≤ 1048576 := by have := h.len; unfold tot at hn; omega
  have HC := Lib.hid (fun W (hR : RdS W H A n L) => telS_any A n c H L q W hR hnb)
  go_enter Try.func43, Try.ntmps43
  go_wp2_with fail
  obtain ⟨W0, h0⟩ : ∃ W, W = w.alloc (.cells #[] 32) := ⟨_, rfl⟩
  have hg0 : GrowS W0 w.heap.size (.slice (some ⟨w.heap.size, 0, none⟩) 0 0) [] := by rw [h0]; exact GrowS.empty w (Nat.le_refl _)
  have hb0 : Below w.heap.size w W0 := by rw [h0]; exact (Below.refl _ _).alloc (Nat.le_refl _) _
  have hr0 : RdS W0 H A n L := h.below (hb0.mono hH)
  rw [← h0]
  clear h h0
  generalize hB : w.heap.size = B at *
  have HB := Lib.hid hB
  clear hB
  refine (HC.out W0 hr0).mono ?_
  rintro e W1 ⟨rfl, p, rfl⟩
  by_cases ht : Tel q L
  · have HT := Lib.hid ht
    have HTY := Lib.hid (tel_yes ht).1
    have HR : Hid (backT q L = back3 L) := by rw [backT, if_pos ht]; rfl
    rw [(tel_yes ht).1]
    clear ht
    go_wp2_with fail
    go_loopw [6, 7] (fun v i wr => ∃ k : Nat, k ≤ n ∧ i = .int .i64 k ∧ Hid (GrowS wr B v (back3 (L.take k))) ∧ Hid (RdS wr H A n L) ∧ Below B w wr) (fun _ i _ => n - (intOf i).toNat)
    case atStart => exact ⟨0, Nat.zero_le _, rfl, by simpa [Hid, back3] using hg0.drewN p, hr0.drewN p, below_drewN hb0 p⟩
    case round =>
      obtain ⟨k, hk, rfl, hgs, hrd, hbl⟩ := hrel
      clear hr0 hg0 hb0
      have HBL := Lib.hid hbl
      have hBs : B ≤ wr.heap.size := by rw [← HB.out]; exact hbl.size
      clear hbl
      by_cases hlt : k < n
      · obtain ⟨b, o, rfl, hbB, hcs⟩ := hrd.out.at_ (by omega)
        obtain ⟨Ak, ck, hc, hr, hz, hcm⟩ := hcs k hlt
        have hthr := HT.out.2.2.2 _ (rowK_mem (show k < L.length by rw [HL.out]; exact hlt))
        have hst := Lib.hid (back3_step L k (by rw [HL.out]; exact hlt))
        have hkl : (back3 (L.take k)).length = k := by simp [back3]; have := HL.out; omega
        obtain ⟨x, y, z, e⟩ := of_three hthr.1
        rw [e] at hr hc hz
        have hst' : Hid (back3 (L.take k) ++ [[x, z, y]] = back3 (L.take (k + 1))) := by have := hst.out; rw [e] at this; exact this
        obtain ⟨b', o', rfl, hbH, c0, c1, c2⟩ := rd3 hr
        obtain ⟨xs, hx1, hx2⟩ := hgs.out
        rw [hkl] at hx1
        have HX1 := Lib.hid hx1
        have HX2 := Lib.hid hx2
        have HKL := Lib.hid hkl
        clear hr hthr hst e hz hcm hx1 hx2 hkl hgs
        have hc' : wr.cell? ⟨b, o + k, none⟩ = some (.slice (some ⟨b', o', none⟩) 3 ck) := hc
        have HK := Lib.hid (fun (W : World) (hW : Below B wr W) => (⟨(hW.cell (p := ⟨b, o + k, none⟩) (by simp; omega)).trans hc', (hW.cell (p := ⟨b', o', none⟩) (by simp; omega)).trans c0, (hW.cell (p := ⟨b', o' + 1, none⟩) (by simp; omega)).trans c1, (hW.cell (p := ⟨b', o' + 2, none⟩) (by simp; omega)).trans c2⟩ :
          W.cell? ⟨b, o + k, none⟩ = some (.slice (some ⟨b', o', none⟩) 3 ck) ∧ W.cell? ⟨b', o', none⟩ = some (.int .i64 x) ∧ W.cell? ⟨b', o' + 1, none⟩ = some (.int .i64 y) ∧ W.cell? ⟨b', o' + 2, none⟩ = some (.int .i64 z)))
        clear hcs hc hc' c0 c1 c2
        go_wp2
        go_region_held_law (fun W => W.cell? ⟨b, o + k, none⟩ = some (.slice (some ⟨b', o', none⟩) 3 ck) ∧ W.cell? ⟨b', o', none⟩ = some (.int .i64 x) ∧ W.cell? ⟨b', o' + 1, none⟩ = some (.int .i64 y) ∧ W.cell? ⟨b', o' + 2, none⟩ = some (.int .i64 z))
          (first
            | exact HK.out _ (Below.refl _ _).drew
            | exact HK.out _ ((Below.refl _ _).drew.alloc (by simp; omega) _)
            | exact HK.out _ (((Below.refl _ _).drew.alloc (by simp; omega) _).alloc (by simp; omega) _)
            | exact HK.out _ HB5.out)
          (first
            | (refine step_append1 _ rfl (.tmp 20) (.tmp 40) rfl B ?v k xs ?hs (wr.heap.size + 1) (.slice (some ⟨wr.heap.size, 0, none⟩) 3 3) ?hx ?hown ?hu ?h1 ?h63 ?hB ?nx; (case hs => (simp [Act.eval]; rfl)); (case hx => simp [Act.eval]); (case hown => exact (HX1.out.alloc _).alloc _); (case hu => first | (simp; done) | (go_simp; done)); (case h1 => rfl); (case h63 => omega); (case hB => (simp; omega)); (intro v' w5 hown5 hgr5; have HB5 : Hid (Below B wr w5) := Lib.hid ((((Below.refl _ _).drew.alloc (by simp; omega) _).alloc (by simp; omega) _).grown hgr5.out (by simp; omega) (fun i hi => (HX1.out.lt i hi).1)))))
        have HG5 := Lib.hid (grow_lit HKL.out HX1.out HX2.out hBs [x, z, y] (by simp) _ hown5.out (grown_undrew hgr5.out))
        rw [hst'.out] at HG5
        have HR5 := Lib.hid (hrd.out.below (HB5.out.mono (by omega)))
        have HBL5 := Lib.hid (HBL.out.trans HB5.out)
        clear hown5 hgr5
        go_wp2
        go_roundw
        case rel => exact ⟨k + 1, by omega, by go_num, HG5, HR5, HBL5.out⟩
        case measure => simp [intOf]; omega
      · obtain rfl : k = n := by omega
        have e : L.take k = L := List.take_of_length_le (by rw [HL.out]; omega)
        rw [e] at hgs
        obtain ⟨A', c', e', _⟩ := hgs.out.slice
        subst e'
        go_wp2
        go_ret2
        refine ⟨.slice A' (back3 L).length c', by rw [HTY.out]; rfl, ?_, by rw [HB.out]; exact HBL.out⟩
        rw [HR.out]
        exact ⟨A', c', rfl, hgs.out.rd.2⟩
  · have HR : Hid (backT q L = []) := by rw [backT, if_neg ht]; rfl
    have HTY := Lib.hid (tel_no ht).1
    rw [(tel_no ht).1]
    clear ht
    go_wp2_with fail
    go_ret2
    refine ⟨.slice (some ⟨B, 0, none⟩) 0 0, by rw [HTY.out]; rfl, ?_, by rw [HB.out]; exact below_drewN hb0 p⟩
    rw [HR.out]
    exact ⟨_, _, rfl, RdS.nil⟩

/-- The program's lists of threes. -/
theorem made_rows {w1 : World} {B n : Nat} {L : List (List Int)} {xs : List Value} (hown : w1.ownsRow B 32 1 (.slice (some ⟨B, 0, none⟩) n n) n xs) : Fill w1 B n L 0 := by
  rcases hown.2 with ⟨e, _⟩ | ⟨g, cap, cur, e, _, hg, _, _, hs, _⟩
  · cases e
  · injection e with e1 _ e3
    injection e1 with e1
    injection e1 with e1
    subst e1
    exact Fill.made hg (by rw [hs]; omega)

set_option maxRecDepth 10000 in
theorem tlist_any (x y z : Int) (D : Nat) (w : World) (hD : D ≤ w.heap.size + 1) :
    Calls Try.prog 85 #[.agg (ints [x, y, z]).toArray] w fun e w' => e = .returned (.slice (some ⟨w.heap.size + 1, 0, none⟩) 3 3) ∧ Own w' D (.slice (some ⟨w.heap.size + 1, 0, none⟩) 3 3) [x, y, z] ∧ Below w.heap.size w w' := by
  change Calls Try.prog 85 #[.agg #[.int .i64 x, .int .i64 y, .int .i64 z]] w _
  have ho := World.ownsRow_lit (base := D) (e := 3) (size := 1) (w.alloc (.cells (ints [x, y, z]).toArray 47)) (ints [x, y, z]).toArray 3 (by simp; omega) (by decide) (by simp)
  rw [show (w.alloc (.cells (ints [x, y, z]).toArray 47)).heap.size = w.heap.size + 1 by simp] at ho
  have HO := Lib.hid ho
  clear ho
  go_enter Try.func85, Try.ntmps85
  go_wp2
  go_ret
  exact ⟨by simp, HO.out, ((Below.refl _ _).alloc (Nat.le_refl _) _).alloc (by simp) _⟩

set_option maxRecDepth 10000 in
set_option maxHeartbeats 1000000 in
theorem threeLists_any (v : Value) (C : Nat) (L : List (List Int)) (w : World) (h : RowN w C 47 3 v L) (hn : L.length ≤ 1000) :
    Calls Try.prog 52 #[v] w fun e w' => e = .returned (.slice (some ⟨w.heap.size, 0, none⟩) L.length L.length) ∧
      OwnS w' w.heap.size w'.heap.size (.slice (some ⟨w.heap.size, 0, none⟩) L.length L.length) L ∧ Below w.heap.size w w' := by
  obtain ⟨i0, hi, hz0, hz1, hz2⟩ := info_parts row_info
  obtain ⟨A, c, rfl⟩ := h.slice
  have HH := Lib.hid h
  obtain ⟨n, hnl⟩ : ∃ n, n = L.length := ⟨_, rfl⟩
  rw [← hnl] at hn ⊢
  have HN := Lib.hid hnl
  have HTHR := Lib.hid h.1
  rw [← hnl] at HH
  clear h hnl
  go_enter Try.func52, Try.ntmps52
  go_wp2_with (at_make; refine wpList_make_full _ rfl _ _ 23 rfl w.heap.size 32 i0 (.slice none 0 0) 1 Try.underlying23 hi hz0 hz1 .i64 .i64 _ _ n rfl rfl rfl rfl (by rw [hz2]; omega) (by unfold maxLen; omega) (Nat.le_refl _) ?_)
  intro w1 hown hgrow
  have hb1 : Below w.heap.size w w1 := (Below.refl _ _).grown hgrow (Nat.le_refl _) (by simp)
  have hf1 : Hid (Fill w1 w.heap.size n L 0) := made_rows hown
  have hr1 : Hid (RowN w1 C 47 3 (.slice A n c) L) := HH.out.grown hgrow (by simp)
  have HLT := Lib.hid (fun i hi => (HH.out.lt i hi).2)
  clear hown hgrow
  generalize hB : w.heap.size = B at *
  have HB := Lib.hid hB
  clear hB HH
  go_wp2
  go_loopw [11] (fun i wr => ∃ k : Nat, k ≤ n ∧ i = .int .i64 k ∧ Hid (Fill wr B n L k) ∧ Hid (RowN wr C 47 3 (.slice A n c) L) ∧ Below B w wr) (fun i _ => n - (intOf i).toNat)
  case atStart => exact ⟨0, Nat.zero_le _, rfl, hf1, hr1, hb1⟩
  case round =>
    obtain ⟨k, hk, rfl, hf, hrd, hbl⟩ := hrel
    clear hf1 hr1 hb1
    have HBL := Lib.hid hbl
    have hBw := hf.out.lt
    clear hbl
    by_cases hlt : k < n
    · have hkl : k < L.length := by rw [← HN.out]; exact hlt
      obtain ⟨g, c', e0, _, hgs, _, _, _, _⟩ := hrd.out.elem hkl
      rw [← HN.out] at e0
      injection e0 with e1 _ e3
      subst e3
      subst e1
      have HKL := Lib.hid hkl
      obtain ⟨x, y, z, e⟩ := of_three (HTHR.out _ (rowK_mem hkl))
      have HE := Lib.hid e
      clear e hkl
      have HNT := Lib.hid (Blk.new (t := 47) wr [0, 0, 0])
      have hgB := HLT.out g rfl
      go_wp2_with (first
        | (refine load_elem rfl _ 47 rfl _ rfl Try.underlying47 g n c C k 3 L hrd HKL.out three_size rfl ?nx; rw [HE.out])
        | (refine store_tri rfl _ _ rfl wr.heap.size zero3 [x, y, z] rfl rfl rfl rfl HNT ?_; intro w6 HB6 hg6 hs6; have h6 : Hid (Below wr.heap.size wr w6) := Lib.hid (((Below.refl _ _).alloc (Nat.le_refl _) _).grown hg6 (by simp) (by simp)))
        | (refine load_tri rfl _ rfl wr.heap.size [x, y, z] rfl rfl HB6 ?_)
        | (go_at_call 85; refine (tlist_any x y z (B + 1) _ (by have := h6.out.size; omega)).mono ?_; rintro e w7 ⟨rfl, ho7, hb7⟩; have HO7 := Lib.hid ho7; have h7 : Hid (Below wr.heap.size wr w7) := Lib.hid (h6.out.trans (hb7.mono h6.out.size)); clear ho7 hb7; have hf7 := hf.out.below h7.out (Nat.le_refl _); obtain ⟨old, hcell⟩ := hf7.cell hlt; have hfr := hf7.frozen k; clear hf7))
      go_roundw
      have hz6 : rowK L k = [x, y, z] := HE.out
      have hFs := hf.out.step h7.out (g := w6.heap.size + 1) (m := 3) (by have := h6.out.size; omega) (by rw [hz6]; rfl) (by rw [hz6]; exact HO7.out) hlt
      rw [show w6.heap.size = wr.heap.size + 1 by rw [hs6]; simp] at hFs
      case rel => exact ⟨k + 1, by omega, by go_num, Lib.hid hFs, Lib.hid ((hrd.out.below h7.out (fun i hi => (hrd.out.lt i hi).2)).same fun i hi => Below.heap_setCell _ _ _ _ (by have := HLT.out i hi; simp; omega)), (HBL.out.trans (h7.out.mono (by omega))).setCell (by simp) _⟩
      case measure => simp [intOf]; omega
    · go_wp2
      go_ret
      obtain rfl : k = n := by omega
      rw [HB.out]
      exact ⟨rfl, hf.out.own HN.out.symm (fun j hj => by have := HTHR.out _ (rowK_mem (show j < L.length by rw [← HN.out]; exact hj)); omega), HBL.out⟩
end Go.Proofs.Ytdndddlikdccgaa

namespace Go.Proofs.Ytdndddlikdccgaa
open Go.ChangeShapes Go.WideShapes Go.ChangeAt Go.RowKit

theorem ownG_dn {w : World} {B B' : Nat} {v : Value} {l : List Int} (h : OwnG w B v l) (hB : B' ≤ B) : OwnG w B' v l := by
  rcases h with e | ⟨g, o, c, cur, e, hb, rest⟩
  · exact .inl e
  · exact .inr ⟨g, o, c, cur, e, by omega, rest⟩

set_option maxRecDepth 10000 in
set_option maxHeartbeats 1000000 in
theorem firstList_any (v : Value) (C : Nat) (M : List (List Int)) (w : World) (h : RowN w C 69 7 v (padM M)) (hM : M.length ≤ 1000) (hI : ∀ l ∈ M, 1 ≤ l.length ∧ l.length ≤ 7 ∧ ∀ x ∈ l, 0 ≤ x) :
    Calls Try.prog 66 #[v] w fun e w' => ∃ v', e = .returned (.tuple #[v', .bool (decide (0 < M.length))]) ∧ OwnG w' w.heap.size v' (rowK M 0) ∧ Below w.heap.size w w' := by
  have hlen : (padM M).length = M.length := by simp [padM]
  by_cases h0 : 0 < M.length
  · obtain ⟨g, c', e0, _, _, _, _, _, _⟩ := h.elem (k := 0) (by rw [hlen]; exact h0)
    subst e0
    have HR2 := Lib.hid h
    have H0 : Hid (0 < (padM M).length) := by rw [hlen]; exact h0
    have HE : Hid (rowK (padM M) 0 = padR (rowK M 0)) := by simp [Hid, padM, rowK, List.getD, h0]
    have hi := hI _ (rowK_mem h0)
    have HLI := Lib.hid (fun W => list_any (rowK M 0) W hi.1 hi.2.1 hi.2.2)
    have HD : Hid (decide (0 < M.length) = true) := by simpa [Hid] using h0
    rw [HD.out]
    obtain ⟨z, hz⟩ : ∃ z, z = (padM M).length := ⟨_, rfl⟩
    rw [← hz] at HR2 H0 ⊢
    have HZ := Lib.hid hz.symm
    have hzb : z ≤ 1000 := by omega
    clear h hi hI h0 hlen hz
    have hz0 : 0 < z := H0.out
    have he' : ((z : Int) == 0) = false := by simp; omega
    go_enter Try.func66, Try.ntmps66
    go_wp2_with (first
      | (refine load_elem rfl _ 69 rfl _ rfl Try.underlying69 g z c' C 0 7 (padM M) HR2 (by rw [HZ.out]; exact hz0) ring_size rfl ?_; rw [HE.out])
      | (go_at_call 73; refine (HLI.out _).mono ?_; rintro e w3 ⟨v3, rfl, ho3, hb3⟩))
    go_ret2
    exact ⟨v3, rfl, ho3.gen, hb3⟩
  · have hz : (padM M).length = 0 := by omega
    have HD : Hid (decide (0 < M.length) = false) := by simpa [Hid] using h0
    have HE : Hid (rowK M 0 = []) := by rw [List.eq_nil_of_length_eq_zero (by omega : M.length = 0)]; rfl
    obtain ⟨A', d', rfl⟩ := h.slice
    rw [hz, HD.out, HE.out]
    clear h hM hI h0 hlen hz
    go_enter Try.func66, Try.ntmps66
    go_wp2
    go_ret2
    exact ⟨.slice none 0 0, rfl, .inl ⟨rfl, rfl⟩, Below.refl _ _⟩
end Go.Proofs.Ytdndddlikdccgaa

namespace Go.Proofs.Ytdndddlikdccgaa
open Go.ChangeShapes Go.WideShapes Go.ChangeAt Go.RowKit

def rgR (q : Int) (L : List (List Int)) : Int := if Tel q L then ((agreeL q.toNat L).length : Nat) else 0
def fsR (q : Int) (L : List (List Int)) : List Int := if Tel q L then rowK (agreeL q.toNat L) 0 else []
def fsB (q : Int) (L : List (List Int)) : Bool := if Tel q L then decide (0 < (agreeL q.toNat L).length) else false
theorem agreeL_is (n : Nat) (L : List (List Int)) (h3 : 3 ≤ n) (h6 : n ≤ 6) : ∀ l ∈ agreeL n L, IsR n l := fun l hl => ringsL_is n h3 h6 l (List.mem_filter.1 hl).1
theorem fsR_length (q : Int) (L : List (List Int)) : (fsR q L).length ≤ 7 := by
  unfold fsR
  split
  · rename_i ht
    rcases Nat.eq_zero_or_pos (agreeL q.toNat L).length with h0 | h0
    · rw [List.eq_nil_of_length_eq_zero h0]; simp [rowK]
    · have := (agreeL_is q.toNat L (by have := ht.1; omega) (by have := ht.2.1; omega) _ (rowK_mem h0)).1
      have := ht.2.1
      omega
  · simp
theorem tel_nat {q : Int} {L : List (List Int)} (ht : Tel q L) : ∃ k : Nat, q = k ∧ 3 ≤ k ∧ k ≤ 6 := ⟨q.toNat, by have := ht.1; omega, by have := ht.1; omega, by have := ht.2.1; omega⟩

set_option maxHeartbeats 1000000 in
theorem trS_any (A : Option Addr) (n c H : Nat) (q : Int) (L : List (List Int)) (w : World) (h : RdS w H A n L) (hH : H ≤ w.heap.size) (hn : tot L ≤ 1048576) :
    Calls Try.prog 29 #[.int .i64 q, .slice A n c] w fun e w' => e = .returned (.tuple #[.int .i64 (rgR q L), .bool (tel q L)]) ∧ Below w.heap.size w w' := by
  have hl := h.len
  have HC := Lib.hid (telS_any A n c H L q w h (by unfold tot at hn; omega))
  by_cases ht : Tel q L
  · obtain ⟨k, rfl, h3, h6⟩ := tel_nat ht
    have HTY := Lib.hid (tel_yes ht).1
    have HG := Lib.hid (fun p => l2Rings_any A n c H k L (w.drewN p) (h.drewN p) hH h3 h6 (by have := ht.2.2.1; omega) ht.2.2.2)
    have HR : Hid (rgR (k : Int) L = ((agreeL k L).length : Nat)) := by rw [Hid, rgR, if_pos ht, Int.toNat_natCast]
    rw [(tel_yes ht).1] at HC
    rw [HR.out, HTY.out]
    clear h hl ht
    go_enter Try.func29, Try.ntmps29
    go_wp2_with fail
    refine HC.out.mono ?_
    rintro e w1 ⟨rfl, p, rfl⟩
    go_wp2_with fail
    refine (HG.out p).mono ?_
    rintro e w2 ⟨v, rfl, hg2, hb2⟩
    obtain ⟨A2, c2, rfl, _⟩ := hg2.slice
    clear hg2
    go_wp2
    go_ret2
    exact ⟨rfl, (below_drewN (Below.refl _ _) p).trans hb2⟩
  · have HTY := Lib.hid (tel_no ht).1
    have HR : Hid (rgR q L = 0) := by rw [Hid, rgR, if_neg ht]
    rw [(tel_no ht).1] at HC
    rw [HR.out, HTY.out]
    clear h hl ht
    go_enter Try.func29, Try.ntmps29
    go_wp2_with (go_at_call 15; refine HC.out.mono ?_; rintro e w1 ⟨rfl, p, rfl⟩)
    go_ret2
    exact ⟨rfl, below_drewN (Below.refl _ _) p⟩

set_option maxHeartbeats 1000000 in
theorem trI_any (A : Option Addr) (n c H : Nat) (q : Int) (L : List (List Int)) (w : World) (h : RdS w H A n L) (hH : H ≤ w.heap.size) (_ : tot L ≤ 1048576) :
    Calls Try.prog 23 #[.int .i64 q, .slice A n c] w fun e w' => e = .returned (.tuple #[.int .i64 (rgR q L), .bool (tel q L)]) ∧ Below w.heap.size w w' := by
  have HC := Lib.hid (readThrees_any A n c H L q w h hH)
  by_cases ht : Tel q L
  · obtain ⟨k, rfl, h3, h6⟩ := tel_nat ht
    have HTY := Lib.hid (tel_yes ht).1
    have HT := Lib.hid ht
    have HR : Hid (rgR (k : Int) L = ((agreeL k L).length : Nat)) := by rw [Hid, rgR, if_pos ht, Int.toNat_natCast]
    rw [(tel_yes ht).1, (tel_yes ht).2] at HC
    rw [HR.out, HTY.out]
    clear h hH ht
    go_enter Try.func23, Try.ntmps23
    go_wp2_with fail
    refine HC.out.mono ?_
    rintro e w1 ⟨v1, rfl, hr1, hb1⟩
    have HG := Lib.hid (agreeing_any k v1 w.heap.size L w1 hr1 h3 h6 (by have := HT.out.2.2.1; omega) HT.out.2.2.2)
    clear hr1 HC
    go_wp2_with fail
    refine HG.out.mono ?_
    rintro e w2 ⟨v2, rfl, hr2, hb2⟩
    obtain ⟨A2, c2, rfl⟩ := hr2.slice
    have hlen : Hid ((padM (agreeL k L)).length = (agreeL k L).length) := by simp [Hid, padM]
    rw [hlen.out]
    clear hr2
    go_wp2
    go_ret2
    exact ⟨rfl, hb1.trans (hb2.mono hb1.size)⟩
  · have HTY := Lib.hid (tel_no ht).1
    have HR : Hid (rgR q L = 0) := by rw [Hid, rgR, if_neg ht]
    rw [(tel_no ht).1] at HC
    rw [HR.out, HTY.out]
    clear h hH ht
    go_enter Try.func23, Try.ntmps23
    go_wp2_with (go_at_call 48; refine HC.out.mono ?_; rintro e w1 ⟨v1, rfl, _, hb1⟩)
    go_ret2
    exact ⟨rfl, hb1⟩

theorem GrowS.row {w : World} {B : Nat} {v : Value} {L : List (List Int)} (h : GrowS w B v L) {k : Nat} (hk : k < L.length) : ∃ g c A d, v = .slice (some ⟨g, 0, none⟩) L.length c ∧ w.cell? ⟨g, k, none⟩ = some (.slice A (rowK L k).length d) ∧ RowV w B (.slice A (rowK L k).length d) (rowK L k) := by
  obtain ⟨xs, h1, h2⟩ := h
  obtain ⟨vk, h3, h4⟩ := h2 k hk
  obtain ⟨A, d, rfl, _⟩ := h4.2
  rcases h1.2 with ⟨_, h0⟩ | ⟨g, cap, cur, rfl, hB, hg, hc, hm, hs, ht⟩
  · omega
  · refine ⟨g, cap, A, d, rfl, ?_, h4⟩
    rw [cell_of_row w g _ cur _ _ hg]
    rw [← ht, List.getElem?_take, if_pos (by omega)] at h3
    simpa using h3

set_option maxHeartbeats 1000000 in
theorem fsS_any (A : Option Addr) (n c H : Nat) (q : Int) (L : List (List Int)) (w : World) (h : RdS w H A n L) (hH : H ≤ w.heap.size) (hn : tot L ≤ 1048576) :
    Calls Try.prog 32 #[.int .i64 q, .slice A n c] w fun e w' => ∃ v, e = .returned (.tuple #[v, .bool (fsB q L)]) ∧ OwnG w' w.heap.size v (fsR q L) ∧ Below w.heap.size w w' := by
  have hl := h.len
  have HC := Lib.hid (telS_any A n c H L q w h (by unfold tot at hn; omega))
  by_cases ht : Tel q L
  · obtain ⟨k, rfl, h3, h6⟩ := tel_nat ht
    have HG := Lib.hid (fun p => l2Rings_any A n c H k L (w.drewN p) (h.drewN p) hH h3 h6 (by have := ht.2.2.1; omega) ht.2.2.2)
    have HR : Hid (fsR (k : Int) L = rowK (agreeL k L) 0 ∧ fsB (k : Int) L = decide (0 < (agreeL k L).length)) := ⟨by rw [fsR, if_pos ht, Int.toNat_natCast], by rw [fsB, if_pos ht, Int.toNat_natCast]⟩
    rw [(tel_yes ht).1] at HC
    rw [HR.out.1, HR.out.2]
    clear h hl ht
    go_enter Try.func32, Try.ntmps32
    go_wp2_with fail
    refine HC.out.mono ?_
    rintro e w1 ⟨rfl, p, rfl⟩
    go_wp2_with fail
    refine (HG.out p).mono ?_
    rintro e w2 ⟨v, rfl, hg2, hb2⟩
    have HB2 := Lib.hid ((below_drewN (Below.refl _ _) p).trans hb2)
    by_cases h0 : 0 < (agreeL k L).length
    · obtain ⟨g, c', A', d', rfl, hc, hrow⟩ := hg2.row h0
      have HD : Hid (decide (0 < (agreeL k L).length) = true) := by simpa [Hid] using h0
      have HROW := Lib.hid hrow.1
      obtain ⟨z, hz⟩ : ∃ z, z = (agreeL k L).length := ⟨_, rfl⟩
      rw [← hz] at h0 ⊢
      clear hg2 hrow hb2 HG HC HR hz
      have he' : ((z : Int) == 0) = false := by simp; omega
      go_wp2
      go_ret2
      exact ⟨.slice A' (rowK (agreeL k L) 0).length d', by rw [HD.out]; rfl, HROW.out, HB2.out⟩
    · have hz : (agreeL k L).length = 0 := by omega
      have HD : Hid (decide (0 < (agreeL k L).length) = false) := by simpa [Hid] using h0
      have HE : Hid (rowK (agreeL k L) 0 = []) := by rw [List.eq_nil_of_length_eq_zero hz]; rfl
      obtain ⟨A', d', rfl, _⟩ := hg2.slice
      rw [hz]
      clear hg2 hb2 HG HC HR hz
      go_wp2_with fail
      refine (none_any _).mono ?_
      rintro e w3 ⟨v3, rfl, ho3, hb3⟩
      go_wp2
      go_ret2
      exact ⟨v3, by rw [HD.out]; rfl, by rw [HE.out]; exact (own_less ho3 HB2.out.size).gen, HB2.out.trans (hb3.mono HB2.out.size)⟩
  · have HR : Hid (fsR q L = [] ∧ fsB q L = false) := ⟨by rw [fsR, if_neg ht], by rw [fsB, if_neg ht]⟩
    rw [(tel_no ht).1] at HC
    rw [HR.out.1, HR.out.2]
    clear h hl ht
    go_enter Try.func32, Try.ntmps32
    go_wp2_with fail
    refine HC.out.mono ?_
    rintro e w1 ⟨rfl, p, rfl⟩
    go_wp2_with fail
    refine (none_any _).mono ?_
    rintro e w3 ⟨v3, rfl, ho3, hb3⟩
    go_wp2
    go_ret2
    exact ⟨_, rfl, ho3.gen, (below_drewN (Below.refl _ _) p).trans hb3⟩

set_option maxRecDepth 10000 in
set_option maxHeartbeats 1000000 in
theorem fsI_any (A : Option Addr) (n c H : Nat) (q : Int) (L : List (List Int)) (w : World) (h : RdS w H A n L) (hH : H ≤ w.heap.size) (_ : tot L ≤ 1048576) :
    Calls Try.prog 30 #[.int .i64 q, .slice A n c] w fun e w' => ∃ v, e = .returned (.tuple #[v, .bool (fsB q L)]) ∧ OwnG w' w.heap.size v (fsR q L) ∧ Below w.heap.size w w' := by
  have HC := Lib.hid (readThrees_any A n c H L q w h hH)
  have hnil : ∀ w' : World, OwnG w' w.heap.size (.slice none 0 0) [] := fun _ => .inl ⟨rfl, rfl⟩
  have HNIL := Lib.hid hnil
  clear hnil
  by_cases ht : Tel q L
  · obtain ⟨k, rfl, h3, h6⟩ := tel_nat ht
    have HT := Lib.hid ht
    have HR : Hid (fsR (k : Int) L = rowK (agreeL k L) 0 ∧ fsB (k : Int) L = decide (0 < (agreeL k L).length)) := ⟨by rw [fsR, if_pos ht, Int.toNat_natCast], by rw [fsB, if_pos ht, Int.toNat_natCast]⟩
    rw [(tel_yes ht).1, (tel_yes ht).2] at HC
    rw [HR.out.1, HR.out.2]
    clear h hH ht
    go_enter Try.func30, Try.ntmps30
    go_wp2_with fail
    refine HC.out.mono ?_
    rintro e w1 ⟨v1, rfl, hr1, hb1⟩
    have HG := Lib.hid (agreeing_any k v1 w.heap.size L w1 hr1 h3 h6 (by have := HT.out.2.2.1; omega) HT.out.2.2.2)
    clear hr1 HC
    go_wp2_with fail
    refine HG.out.mono ?_
    rintro e w2 ⟨v2, rfl, hr2, hb2⟩
    have HB2 := Lib.hid (hb1.trans (hb2.mono hb1.size))
    have HF := Lib.hid (firstList_any v2 w1.heap.size (agreeL k L) w2 hr2 (by have := agreeL_len k L h3 h6; omega) (fun l hl => by
      have hI := agreeL_is k L h3 h6 l hl
      exact ⟨by rw [hI.1]; omega, by rw [hI.1]; omega, hI.2.1⟩))
    clear hr2 hb1 hb2 HG HR
    go_wp2_with fail
    refine HF.out.mono ?_
    rintro e w3 ⟨v3, rfl, ho3, hb3⟩
    have HO3 := Lib.hid (show OwnG w3 w.heap.size v3 (rowK (agreeL k L) 0) from (ownG_dn ho3 HB2.out.size))
    have HB3 := Lib.hid (HB2.out.trans (hb3.mono HB2.out.size))
    clear ho3 hb3 HF
    go_wp2
    go_ret2
    exact ⟨v3, rfl, HO3.out, HB3.out⟩
  · have HR : Hid (fsR q L = [] ∧ fsB q L = false) := ⟨by rw [fsR, if_neg ht], by rw [fsB, if_neg ht]⟩
    rw [(tel_no ht).1] at HC
    rw [HR.out.1, HR.out.2]
    clear h hH ht
    go_enter Try.func30, Try.ntmps30
    go_wp2_with (go_at_call 48; refine HC.out.mono ?_; rintro e w1 ⟨v1, rfl, _, hb1⟩)
    go_ret2
    exact ⟨.slice none 0 0, rfl, HNIL.out _, hb1⟩
end Go.Proofs.Ytdndddlikdccgaa

namespace Go.Proofs.Ytdndddlikdccgaa
open Go.ChangeShapes Go.WideShapes Go.ChangeAt Go.RowKit

theorem results_tri {fn : Func} {p : Tmp} (h : fn.results = #[.cell p 47]) (tmps : Array Value) (w : World) (g : Nat) (P : List Int) (hP : P.length = 3)
    (hp : tmps.getD p undef = .pointer (some ⟨g, 0, none⟩)) (hg : Hid (Tri w g P)) : (results fn tmps).run Try.prog w = .ok (.agg (ints P).toArray) w :=
  results_cell_row h _ _ g 47 _ (0, 0) _ hp hg.out Try.underlying47 rfl (by rw [three_size]; simp [hP])
theorem ret_tri {fn : Func} {R : Ending → World → Prop} {a : Act} {w : World} {p : Tmp} (h : fn.results = #[.cell p 47]) (g : Nat) (P : List Int) (hP : P.length = 3) (hp : a.tmps.getD p undef = .pointer (some ⟨g, 0, none⟩))
    (hg : Hid (Tri w g P)) (hd : a.defers = []) (hR : R (.returned (.agg (ints P).toArray)) w) : bodyPost Try.prog fn R .ret a w :=
  bodyPost_ret (results_tri h _ _ g P hP hp hg) hd hR

set_option maxRecDepth 10000 in
theorem tback_any (x y z : Int) (w : World) :
    Calls Try.prog 51 #[.agg (ints [x, y, z]).toArray] w fun e w' => e = .returned (.agg (ints [x, z, y]).toArray) ∧ Below w.heap.size w w' := by
  change Calls Try.prog 51 #[.agg #[.int .i64 x, .int .i64 y, .int .i64 z]] w _
  have hn := Blk.new (t := 47) (w.alloc (.cells (ints [x, y, z]).toArray 47)) [x, z, y]
  rw [show (w.alloc (.cells (ints [x, y, z]).toArray 47)).heap.size = w.heap.size + 1 by simp] at hn
  have HN := Lib.hid hn
  clear hn
  go_enter Try.func51, Try.ntmps51
  go_wp2
  exact ret_tri rfl (w.heap.size + 1) [x, z, y] rfl rfl HN rfl ⟨rfl, ((Below.refl _ _).alloc (Nat.le_refl _) _).alloc (by simp) _⟩

def mixB (L : List (List Int)) (k : Nat) : List (List Int) := back3 (L.take k) ++ L.drop k
theorem mixB_length (L : List (List Int)) (k : Nat) (h : k ≤ L.length) : (mixB L k).length = L.length := by simp [mixB, back3]; omega
theorem mixB_row (L : List (List Int)) (k : Nat) (h : k < L.length) : rowK (mixB L k) k = rowK L k := by
  have hl : (back3 (L.take k)).length = k := by simp [back3]; omega
  simp only [rowK, List.getD, mixB]
  rw [List.getElem?_append_right (by omega), hl, Nat.sub_self, List.getElem?_drop, Nat.add_zero]
theorem mixB_step (L : List (List Int)) (k : Nat) (h : k < L.length) : (mixB L k).set k (turn3 (rowK L k)) = mixB L (k + 1) := by
  have hl : (back3 (L.take k)).length = k := by simp [back3]; omega
  unfold mixB
  rw [List.set_append_right _ _ (by omega), hl, Nat.sub_self, List.drop_eq_getElem_cons h, List.set_cons_zero, ← back3_step L k h, List.append_assoc]
  rfl
theorem back3_row3 (L : List (List Int)) : ∀ l ∈ back3 L, l.length = 3 := fun l hl => by
  simp only [back3, List.mem_map] at hl
  obtain ⟨m, _, rfl⟩ := hl
  rfl

set_option maxRecDepth 10000 in
set_option maxHeartbeats 1000000 in
theorem b3I_any (A : Option Addr) (n c H : Nat) (q : Int) (L : List (List Int)) (w : World) (h : RdS w H A n L) (hH : H ≤ w.heap.size) (_ : tot L ≤ 1048576) :
    Calls Try.prog 16 #[.int .i64 q, .slice A n c] w fun e w' => ∃ v, e = .returned (.tuple #[v, .bool (tel q L)]) ∧ OwnS w' w.heap.size w'.heap.size v (backT q L) ∧ Below w.heap.size w w' := by
  have HC := Lib.hid (readThrees_any A n c H L q w h hH)
  clear h hH
  go_enter Try.func16, Try.ntmps16
  go_wp2_with fail
  refine HC.out.mono ?_
  rintro e W1 ⟨v, rfl, hrow, hb1⟩
  by_cases ht : Tel q L
  · have HTY := Lib.hid (tel_yes ht).1
    have HR : Hid (backT q L = back3 L) := by rw [backT, if_pos ht]; rfl
    rw [(tel_yes ht).2] at hrow
    have HLEN := Lib.hid ht.2.2.1
    rw [(tel_yes ht).1]
    have HTHR := Lib.hid (fun l hl => (ht.2.2.2 l hl).1)
    clear ht HC
    obtain ⟨A1, c1, rfl⟩ := hrow.slice
    obtain ⟨m, hm⟩ : ∃ m, m = L.length := ⟨_, rfl⟩
    have HM := Lib.hid hm
    have hr0 : Hid (RowN W1 w.heap.size 47 3 (.slice A1 m c1) (mixB L 0)) := by
      have e : mixB L 0 = L := by simp [mixB, back3]
      rw [e, hm]; exact hrow
    rw [← hm]
    have HLT := Lib.hid (fun i hi => hrow.lt i hi)
    rw [← hm] at HLT
    clear hrow hm
    generalize hB : w.heap.size = B at *
    have HB := Lib.hid hB
    clear hB
    have hB1 : B ≤ W1.heap.size := by rw [← HB.out]; exact hb1.size
    have hm40 : m ≤ 1000 := by rw [HM.out]; have := HLEN.out; omega
    go_wp2_with fail
    go_loopw [20] (fun i wr => ∃ k : Nat, k ≤ m ∧ i = .int .i64 k ∧ Hid (RowN wr B 47 3 (.slice A1 m c1) (mixB L k)) ∧ Below B w wr) (fun i _ => m - (intOf i).toNat)
    case atStart => exact ⟨0, Nat.zero_le _, rfl, hr0, hb1⟩
    case round =>
      obtain ⟨k, hk, rfl, hrd, hbl⟩ := hrel
      clear hr0 hb1
      have HBL := Lib.hid hbl
      have hBw : B ≤ wr.heap.size := by rw [← HB.out]; exact hbl.size
      clear hbl
      by_cases hlt : k < m
      · have hkl : k < L.length := by rw [← HM.out]; exact hlt
        have hkm : k < (mixB L k).length := by rw [mixB_length L k (by omega)]; exact hkl
        obtain ⟨g, c', e0, hBg, hgs, _, _, _, _⟩ := hrd.out.elem hkm
        rw [mixB_length L k (by omega), ← HM.out] at e0
        injection e0 with e1 _ e3
        subst e3
        subst e1
        have HKM := Lib.hid hkm
        obtain ⟨x, y, z, e⟩ := of_three (HTHR.out _ (rowK_mem hkl))
        have HE : Hid (rowK (mixB L k) k = [x, y, z]) := by rw [mixB_row L k hkl]; exact e
        have HST : Hid ((mixB L k).set k [x, z, y] = mixB L (k + 1)) := by rw [← mixB_step L k hkl, e]; rfl
        clear e hkl hkm
        have HNT := Lib.hid (Blk.new (t := 47) wr [0, 0, 0])
        go_wp2_with (first
          | (refine load_elem rfl _ 47 rfl _ rfl Try.underlying47 g m c1 B k 3 (mixB L k) hrd HKM.out three_size rfl ?nx; rw [HE.out])
          | (refine store_tri rfl _ _ rfl wr.heap.size zero3 [x, y, z] rfl rfl rfl rfl HNT ?_; intro w6 HB6 hg6 hs6; have h6 : Hid (Below wr.heap.size wr w6) := Lib.hid (((Below.refl _ _).alloc (Nat.le_refl _) _).grown hg6 (by simp) (by simp)))
          | (refine load_tri rfl _ rfl wr.heap.size [x, y, z] rfl rfl HB6 ?_)
          | (go_at_call 51; refine (tback_any x y z _).mono ?_; rintro e w7 ⟨rfl, hb7⟩; have h7 : Hid (Below wr.heap.size wr w7) := Lib.hid (h6.out.trans (hb7.mono h6.out.size)); have HR7 := Lib.hid (hrd.out.below h7.out (fun i hi => (hrd.out.lt i hi).2)))
          | (refine store_elem rfl _ _ 47 rfl g m c1 B k 3 (mixB L k) [x, z, y] HR7 HKM.out rfl three_size rfl rfl ?_; intro w8 HR8 hg8))
        rw [HST.out] at HR8
        have HB8 := Lib.hid ((HBL.out.trans (h7.out.mono hBw)).grown hg8 (by have := h7.out.size; omega) (by simp; omega))
        go_wp2
        go_roundw
        case rel => exact ⟨k + 1, by omega, by go_num, HR8, HB8.out⟩
        case measure => simp [intOf]; omega
      · obtain rfl : k = m := by omega
        have hrd' := hrd.out
        have e : mixB L k = back3 L := by rw [HM.out]; simp [mixB]
        rw [e] at hrd'
        have hbl' : (back3 L).length = k := by rw [HM.out]; simp [back3]
        have HBK := Lib.hid hbl'
        have HF := Lib.hid (threeLists_any (.slice A1 k c1) B (back3 L) wr hrd' (by rw [hbl', HM.out]; have := HLEN.out; omega))
        clear hrd' e hbl' hrd
        go_wp2_with fail
        refine HF.out.mono ?_
        rintro e w9 ⟨rfl, ho9, hb9⟩
        go_wp2
        go_ret2
        refine ⟨.slice (some ⟨wr.heap.size, 0, none⟩) (back3 L).length (back3 L).length, by rw [HTY.out]; rfl, ?_, by rw [HB.out]; exact HBL.out.trans (hb9.mono hBw)⟩
        rw [HR.out, HB.out]
        exact ho9.more hBw (Nat.le_refl _)
  · have HTY := Lib.hid (tel_no ht).1
    have HR : Hid (backT q L = []) := by rw [backT, if_neg ht]; rfl
    rw [(tel_no ht).1]
    clear ht hrow HC
    go_wp2_with fail
    go_ret2
    exact ⟨.slice none 0 0, by rw [HTY.out]; rfl, by rw [HR.out]; exact .inl ⟨rfl, rfl⟩, hb1⟩
end Go.Proofs.Ytdndddlikdccgaa
