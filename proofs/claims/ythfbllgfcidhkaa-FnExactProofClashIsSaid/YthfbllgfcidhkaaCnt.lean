/- How many threes of a telling a ring has: the model's count, the program's count. All rings in order. -/
import Derived.Test.YthfbllgfcidhkaaHas3
import Derived.Test.YthfbllgfcidhkaaDelF
import Derived.Test.YthfbllgfcidhkaaByI
import Derived.Test.YthfbllgfcidhkaaByS
import Derived.Test.YthfbllgfcidhkaaAllR
namespace Go.Proofs.Ythfbllgfcidhkaa
open Go.ChangeShapes Go.WideShapes Go.ChangeAt Go.RowKit

def cntL (l : List Int) (L : List (List Int)) : Nat := (L.filter (has3 l)).length
theorem cntL_le (l : List Int) (L : List (List Int)) : cntL l L ≤ L.length := List.length_filter_le _ _
theorem cnt_step (l : List Int) (L : List (List Int)) (k : Nat) (h : k < L.length) : cntL l (L.take (k + 1)) = cntL l (L.take k) + if has3 l (rowK L k) then 1 else 0 := by
  unfold cntL
  rw [List.take_succ_eq_append_getElem h, List.filter_append, List.length_append]
  have e : rowK L k = L[k] := by simp [rowK, List.getD, h]
  rw [e]
  cases hh : has3 l L[k] <;> simp [hh]
theorem cnt_take (l : List Int) (L : List (List Int)) (k : Nat) : cntL l (L.take k) ≤ k := by
  have h1 := cntL_le l (L.take k)
  have h2 : (L.take k).length ≤ k := by rw [List.length_take]; omega
  omega

/-- Each row is three points of the ring. -/
def Mem3 (l : List Int) (L : List (List Int)) : Prop := ∀ t ∈ L, ∃ x y z, t = [x, y, z] ∧ x ∈ l ∧ y ∈ l ∧ z ∈ l

set_option maxHeartbeats 1000000 in
theorem many_any (A : Option Addr) (n c H : Nat) (l : List Int) (A' : Option Addr) (m d H' : Nat) (L : List (List Int)) (w : World) (h : Rd w H A n l) (h' : RdS w H' A' m L) (h1 : 1 ≤ n) (hn : n ≤ 7) (hm : m ≤ 1000) (hM : Mem3 l L) :
    Calls Try.prog 82 #[.slice A n c, .slice A' m d] w fun e w' => e = .returned (.int .i64 (cntL l L : Nat)) ∧ ∃ q, w' = w.drewN q := by
  have HL := Lib.hid h'.len
  have HM := Lib.hid hM
  have HR := Lib.hid h
  clear hM h
  go_enter Try.func82, Try.ntmps82
  go_wp2
  go_loopw [5, 6] (fun s i wr => ∃ k : Nat, k ≤ m ∧ i = .int .i64 k ∧ s = .int .i64 (cntL l (L.take k) : Nat) ∧ RdS wr H' A' m L ∧ ∃ q, wr = w.drewN q) (fun _ i _ => m - (intOf i).toNat)
  case atStart => exact ⟨0, Nat.zero_le _, rfl, by simp [cntL], h', 0, rfl⟩
  case round =>
    obtain ⟨k, hk, rfl, rfl, hrd, q, hq⟩ := hrel
    have HQ := Lib.hid hq
    clear h'
    by_cases hlt : k < m
    · have hkl : k < L.length := by rw [HL.out]; exact hlt
      obtain ⟨b, o, rfl, hbB, hcs⟩ := hrd.at_ (by omega)
      obtain ⟨Ak, ck, hc, hr, _, _⟩ := hcs k hlt
      obtain ⟨x, y, z, e, hx, hy, hz⟩ := HM.out _ (rowK_mem hkl)
      rw [e] at hc hr
      have HC := Lib.hid (l2Has_any A n c H l Ak ck H' x y z wr (by rw [hq]; exact HR.out.drewN q) hr h1 hn hx hy hz)
      have HS := Lib.hid (cnt_step l L k hkl)
      rw [e] at HS
      have hle := cnt_take l L k
      clear hcs hr e hx hy hz hkl hq
      obtain ⟨s, hs⟩ : ∃ s, s = cntL l (L.take k) := ⟨_, rfl⟩
      rw [← hs] at hle HS ⊢
      clear hs
      change wr.cell? ⟨b, o + k, none⟩ = some (.slice Ak 3 ck) at hc
      cases hh : has3 l [x, y, z] with
      | true =>
        rw [hh] at HC HS
        clear hh
        go_wp2_with (go_at_call 47; refine HC.out.mono ?_; rintro e w' ⟨rfl, p, rfl⟩)
        go_roundw
        case rel => exact ⟨k + 1, by omega, by go_num, by rw [HS.out]; go_num, hrd.drewN _, q + p, by rw [HQ.out, World.drewN_drewN]⟩
        case measure => simp [intOf]; omega
      | false =>
        rw [hh] at HC HS
        clear hh
        go_wp2_with (go_at_call 47; refine HC.out.mono ?_; rintro e w' ⟨rfl, p, rfl⟩)
        go_roundw
        case rel => exact ⟨k + 1, by omega, by go_num, by rw [HS.out]; rfl, hrd.drewN _, q + p, by rw [HQ.out, World.drewN_drewN]⟩
        case measure => simp [intOf]; omega
    · obtain rfl : k = m := by omega
      have e : L.take k = L := List.take_of_length_le (by rw [HL.out]; omega)
      rw [e]
      go_wp2
      go_ret
      exact ⟨rfl, q, by first | rfl | exact HQ.out⟩

set_option maxRecDepth 10000 in
set_option maxHeartbeats 1000000 in
theorem agrees_any (l : List Int) (v : Value) (C : Nat) (L : List (List Int)) (w : World) (h : RowN w C 74 3 v L) (h1 : 1 ≤ l.length) (hl : l.length ≤ 7) (hp : ∀ x ∈ l, 0 ≤ x) (hm : L.length ≤ 1000) (hM : Mem3 l L) :
    Calls Try.prog 86 #[agp l, v] w fun e w' => e = .returned (.int .i64 (cntL l L : Nat)) ∧ Below w.heap.size w w' := by
  obtain ⟨A, c, rfl⟩ := h.slice
  obtain ⟨a0, a1, a2, a3, a4, a5, a6, hP⟩ := seven (padR_length l hl)
  have HH := Lib.hid (fun x y z W (hx : x ∈ l) (hy : y ∈ l) (hz : z ∈ l) => hasThree_any l x y z W h1 hl hp hx hy hz)
  unfold agp at HH ⊢
  rw [hP] at HH ⊢
  change Calls Try.prog 86 #[ag a0 a1 a2 a3 a4 a5 a6, .slice A L.length c] w _
  obtain ⟨m, hml⟩ : ∃ m, m = L.length := ⟨_, rfl⟩
  have HL := Lib.hid hml
  have HM := Lib.hid hM
  have HLT := Lib.hid (fun i hi => (h.lt i hi).2)
  have hw0 : Hid (Arr (w.alloc (.cells (ints [a0, a1, a2, a3, a4, a5, a6]).toArray 59)) w.heap.size [a0, a1, a2, a3, a4, a5, a6]) := heap_alloc_new w _
  have hr0 : Hid (RowN (w.alloc (.cells (ints [a0, a1, a2, a3, a4, a5, a6]).toArray 59)) C 74 3 (.slice A L.length c) L) := h.alloc _
  have hb0 : Below w.heap.size w (w.alloc (.cells (ints [a0, a1, a2, a3, a4, a5, a6]).toArray 59)) := (Below.refl _ _).alloc (Nat.le_refl _) _
  have hs0 : (w.alloc (.cells (ints [a0, a1, a2, a3, a4, a5, a6]).toArray 59)).heap.size = w.heap.size + 1 := by simp
  rw [← hml] at hm hr0 HLT ⊢
  clear h hM hml hP hp
  simp only [ints, List.map_cons, List.map_nil] at hw0 hr0 hb0 hs0
  go_enter Try.func86, Try.ntmps86
  go_wp2
  generalize hW0 : w.alloc (.cells #[.int .i64 a0, .int .i64 a1, .int .i64 a2, .int .i64 a3, .int .i64 a4, .int .i64 a5, .int .i64 a6] 59) = W0 at *
  clear hW0
  have HS0 := Lib.hid hs0
  clear hs0
  generalize hB : w.heap.size = B at *
  have HB := Lib.hid hB
  clear hB
  go_loopw [5, 10] (fun s i wr => ∃ k : Nat, k ≤ m ∧ i = .int .i64 k ∧ s = .int .i64 (cntL l (L.take k) : Nat) ∧ Hid (RowN wr C 74 3 (.slice A m c) L) ∧ Hid (Arr wr B [a0, a1, a2, a3, a4, a5, a6]) ∧ Below B w wr) (fun _ i _ => m - (intOf i).toNat)
  case atStart => exact ⟨0, Nat.zero_le _, rfl, by simp [cntL], hr0, hw0, hb0⟩
  case round =>
    obtain ⟨k, hk, rfl, rfl, hrd, harr, hbl⟩ := hrel
    clear hr0 hw0 hb0
    have hBw := harr.out.lt
    have HBL := Lib.hid hbl
    clear hbl
    by_cases hlt : k < m
    · have hkl : k < L.length := by rw [← HL.out]; exact hlt
      obtain ⟨g, c', e0, _, hgs, _, _, _, _⟩ := hrd.out.elem hkl
      rw [← HL.out] at e0
      injection e0 with e1 _ e3
      subst e3
      subst e1
      have HKL := Lib.hid hkl
      obtain ⟨x, y, z, e, hx, hy, hz⟩ := HM.out _ (rowK_mem hkl)
      have HE := Lib.hid e
      have HC := Lib.hid (fun W => HH.out x y z W hx hy hz)
      have HS := Lib.hid (cnt_step l L k hkl)
      rw [e] at HS
      have hle := cnt_take l L k
      have hlt1 := HLT.out g rfl
      clear e hx hy hz hkl
      obtain ⟨s, hs⟩ : ∃ s, s = cntL l (L.take k) := ⟨_, rfl⟩
      rw [← hs] at hle HS ⊢
      clear hs
      have HNT := Lib.hid (Blk.new (t := 74) wr [0, 0, 0])
      cases hh : has3 l [x, y, z] with
      | true =>
        rw [hh] at HC HS
        clear hh
        go_wp2_with (first
          | (refine load_elem rfl _ 74 rfl _ rfl Try.underlying74 g m c C k 3 L hrd HKL.out three_size rfl ?_; rw [HE.out])
          | (refine store_tri rfl _ _ rfl wr.heap.size zero3 [x, y, z] rfl rfl rfl rfl HNT ?_; intro w6 HB6 hg6 hs6; have h6 : Hid (Below wr.heap.size wr w6) := Lib.hid (((Below.refl _ _).alloc (Nat.le_refl _) _).grown hg6 (by simp) (by simp)); have HA6 := Lib.hid (harr.out.below h6.out hBw))
          | (refine load_ring rfl _ rfl B [a0, a1, a2, a3, a4, a5, a6] rfl rfl HA6 ?_)
          | (refine load_tri rfl _ rfl wr.heap.size [x, y, z] rfl rfl HB6 ?_)
          | (go_at_call 78; refine (HC.out _).mono ?_; rintro e w7 ⟨rfl, hb7⟩; have h7 : Hid (Below wr.heap.size wr w7) := Lib.hid (h6.out.trans (hb7.mono h6.out.size))))
        go_wp2
        go_roundw
        case rel => exact ⟨k + 1, by omega, by go_num, by rw [HS.out]; go_num, Lib.hid (hrd.out.below h7.out (fun i hi => (hrd.out.lt i hi).2)), Lib.hid (harr.out.below h7.out hBw), HBL.out.trans (h7.out.mono (by omega))⟩
        case measure => simp [intOf]; omega
      | false =>
        rw [hh] at HC HS
        clear hh
        go_wp2_with (first
          | (refine load_elem rfl _ 74 rfl _ rfl Try.underlying74 g m c C k 3 L hrd HKL.out three_size rfl ?_; rw [HE.out])
          | (refine store_tri rfl _ _ rfl wr.heap.size zero3 [x, y, z] rfl rfl rfl rfl HNT ?_; intro w6 HB6 hg6 hs6; have h6 : Hid (Below wr.heap.size wr w6) := Lib.hid (((Below.refl _ _).alloc (Nat.le_refl _) _).grown hg6 (by simp) (by simp)); have HA6 := Lib.hid (harr.out.below h6.out hBw))
          | (refine load_ring rfl _ rfl B [a0, a1, a2, a3, a4, a5, a6] rfl rfl HA6 ?_)
          | (refine load_tri rfl _ rfl wr.heap.size [x, y, z] rfl rfl HB6 ?_)
          | (go_at_call 78; refine (HC.out _).mono ?_; rintro e w7 ⟨rfl, hb7⟩; have h7 : Hid (Below wr.heap.size wr w7) := Lib.hid (h6.out.trans (hb7.mono h6.out.size))))
        go_wp2
        go_roundw
        case rel => exact ⟨k + 1, by omega, by go_num, by rw [HS.out]; rfl, Lib.hid (hrd.out.below h7.out (fun i hi => (hrd.out.lt i hi).2)), Lib.hid (harr.out.below h7.out hBw), HBL.out.trans (h7.out.mono (by omega))⟩
        case measure => simp [intOf]; omega
    · obtain rfl : k = m := by omega
      have e : L.take k = L := List.take_of_length_le (by rw [HL.out]; omega)
      rw [e]
      go_wp2
      go_ret
      exact ⟨rfl, by rw [HB.out]; exact HBL.out⟩

/-! ### All rings of n points -/
theorem IsR.mem3 {n : Nat} {l : List Int} (h : IsR n l) {L : List (List Int)} (hL : ∀ t ∈ L, Thr (n : Int) t) : Mem3 l L := fun t ht => by
  obtain ⟨x, y, z, rfl⟩ := of_three (hL t ht).1
  have hm := (hL _ ht).2.1
  exact ⟨x, y, z, rfl, h.2.2 x (hm x (by simp)).1 (hm x (by simp)).2, h.2.2 y (hm y (by simp)).1 (hm y (by simp)).2, h.2.2 z (hm z (by simp)).1 (hm z (by simp)).2⟩
end Go.Proofs.Ythfbllgfcidhkaa
