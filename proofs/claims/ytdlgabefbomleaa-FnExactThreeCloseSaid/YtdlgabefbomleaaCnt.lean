/- How many threes of a telling a ring has: the model's count, the program's count. All rings in order. -/
import Derived.Test.YtdlgabefbomleaaHas3
import Derived.Test.YtdlgabefbomleaaDelF
import Derived.Test.YtdlgabefbomleaaByI
import Derived.Test.YtdlgabefbomleaaByS
namespace Go.Proofs.Ytdlgabefbomleaa
open Go.ChangeShapes Go.WideShapes Go.ChangeAt Go.RowKit

def cntL (l : List Int) (L : List (List Int)) : Nat := (L.filter (has3 l)).length
theorem cntL_le (l : List Int) (L : List (List Int)) : cntL l L ≤ L.length := List.length_filter_le _ _
theorem cnt_step (l : List Int) (L : List (List Int)) (k : Nat) (h : k < L.length) : cntL l (L.take (k + 1)) = cntL l (L.take k) + if has3 l (rowK L k) then 1 else 0 := by
  unfold cntL
  rw [List.take_succ_eq_append_getElem h, List.filter_append, List.length_append]
  have e : rowK L k = L[k] := by simp [rowK, List.getD, h]
  rw [e]
  cases hh : has3 l L[k] <;> simp [hh]
theorem cnt_take (l : List Int) (L : List (List Int)) (k : Nat) : cntL l (L.take k) ≤ k := by
  have h1 := cntL_le l (L.take k)
  have h2 : (L.take k).length ≤ k := by rw [List.length_take]; omega
  omega

/-- Each row is three points of the ring. -/
def Mem3 (l : List Int) (L : List (List Int)) : Prop := ∀ t ∈ L, ∃ x y z, t = [x, y, z] ∧ x ∈ l ∧ y ∈ l ∧ z ∈ l

set_option maxHeartbeats 1000000 in
theorem many_any (A : Option Addr) (n c H : Nat) (l : List Int) (A' : Option Addr) (m d H' : Nat) (L : List (List Int)) (w : World) (h : Rd w H A n l) (h' : RdS w H' A' m L) (h1 : 1 ≤ n) (hn : n ≤ 7) (hm : m ≤ 1000) (hM : Mem3 l L) :
    Calls Try.prog 99 #[.slice A n c, .slice A' m d] w fun e w' => e = .returned (.int .i64 (cntL l L : Nat)) ∧ ∃ q, w' = w.drewN q := by
  have HL := Lib.hid h'.len
  have HM := Lib.hid hM
  have HR := Lib.hid h
  clear hM h
  go_enter Try.func99, Try.ntmps99
  go_wp2
  go_loopw [5, 6] (fun s i wr => ∃ k : Nat, k ≤ m ∧ i = .int .i64 k ∧ s = .int .i64 (cntL l (L.take k) : Nat) ∧ RdS wr H' A' m L ∧ ∃ q, wr = w.drewN q) (fun _ i _ => m - (intOf i).toNat)
  case atStart => exact ⟨0, Nat.zero_le _, rfl, by simp [cntL], h', 0, rfl⟩
  case round =>
    obtain ⟨k, hk, rfl, rfl, hrd, q, hq⟩ := hrel
    have HQ := Lib.hid hq
    clear h'
    by_cases hlt : k < m
    · have hkl : k < L.length := by rw [HL.out]; exact hlt
      obtain ⟨b, o, rfl, hbB, hcs⟩ := hrd.at_ (by omega)
      obtain ⟨Ak, ck, hc, hr, _, _⟩ := hcs k hlt
      obtain ⟨x, y, z, e, hx, hy, hz⟩ := HM.out _ (rowK_mem hkl)
      rw [e] at hc hr
      have HC := Lib.hid (l2Has_any A n c H l Ak ck H' x y z wr (by rw [hq]; exact HR.out.drewN q) hr h1 hn hx hy hz)
      have HS := Lib.hid (cnt_step l L k hkl)
      rw [e] at HS
      have hle := cnt_take l L k
      clear hcs hr e hx hy hz hkl hq
      obtain ⟨s, hs⟩ : ∃ s, s = cntL l (L.take k) := ⟨_, rfl⟩
      rw [← hs] at hle HS ⊢
      clear hs
      change wr.cell? ⟨b, o + k, none⟩ = some (.slice Ak 3 ck) at hc
      cases hh : has3 l [x, y, z] with
      | true =>
        rw [hh] at HC HS
        clear hh
        go_wp2_with (go_at_call 56; refine HC.out.mono ?_; rintro e w' ⟨rfl, p, rfl⟩)
        go_roundw
        case rel => exact ⟨k + 1, by omega, by go_num, by rw [HS.out]; go_num, hrd.drewN _, q + p, by rw [HQ.out, World.drewN_drewN]⟩
        case measure => simp [intOf]; omega
      | false =>
        rw [hh] at HC HS
        clear hh
        go_wp2_with (go_at_call 56; refine HC.out.mono ?_; rintro e w' ⟨rfl, p, rfl⟩)
        go_roundw
        case rel => exact ⟨k + 1, by omega, by go_num, by rw [HS.out]; rfl, hrd.drewN _, q + p, by rw [HQ.out, World.drewN_drewN]⟩
        case measure => simp [intOf]; omega
    · obtain rfl : k = m := by omega
      have e : L.take k = L := List.take_of_length_le (by rw [HL.out]; omega)
      rw [e]
      go_wp2
      go_ret
      exact ⟨rfl, q, by first | rfl | exact HQ.out⟩

set_option maxRecDepth 10000 in
set_option maxHeartbeats 1000000 in
theorem agrees_any (l : List Int) (v : Value) (C : Nat) (L : List (List Int)) (w : World) (h : RowN w C 52 3 v L) (h1 : 1 ≤ l.length) (hl : l.length ≤ 7) (hp : ∀ x ∈ l, 0 ≤ x) (hm : L.length ≤ 1000) (hM : Mem3 l L) :
    Calls Try.prog 75 #[agp l, v] w fun e w' => e = .returned (.int .i64 (cntL l L : Nat)) ∧ Below w.heap.size w w' := by
  obtain ⟨A, c, rfl⟩ := h.slice
  obtain ⟨a0, a1, a2, a3, a4, a5, a6, hP⟩ := seven (padR_length l hl)
  have HH := Lib.hid (fun x y z W (hx : x ∈ l) (hy : y ∈ l) (hz : z ∈ l) => hasThree_any l x y z W h1 hl hp hx hy hz)
  unfold agp at HH ⊢
  rw [hP] at HH ⊢
  change Calls Try.prog 75 #[ag a0 a1 a2 a3 a4 a5 a6, .slice A L.length c] w _
  obtain ⟨m, hml⟩ : ∃ m, m = L.length := ⟨_, rfl⟩
  have HL := Lib.hid hml
  have HM := Lib.hid hM
  have HLT := Lib.hid (fun i hi => (h.lt i hi).2)
  have hw0 : Hid (Arr (w.alloc (.cells (ints [a0, a1, a2, a3, a4, a5, a6]).toArray 48)) w.heap.size [a0, a1, a2, a3, a4, a5, a6]) := heap_alloc_new w _
  have hr0 : Hid (RowN (w.alloc (.cells (ints [a0, a1, a2, a3, a4, a5, a6]).toArray 48)) C 52 3 (.slice A L.length c) L) := h.alloc _
  have hb0 : Below w.heap.size w (w.alloc (.cells (ints [a0, a1, a2, a3, a4, a5, a6]).toArray 48)) := (Below.refl _ _).alloc (Nat.le_refl _) _
  have hs0 : (w.alloc (.cells (ints [a0, a1, a2, a3, a4, a5, a6]).toArray 48)).heap.size = w.heap.size + 1 := by simp
  rw [← hml] at hm hr0 HLT ⊢
  clear h hM hml hP hp
  simp only [ints, List.map_cons, List.map_nil] at hw0 hr0 hb0 hs0
  go_enter Try.func75, Try.ntmps75
  go_wp2
  generalize hW0 : w.alloc (.cells #[.int .i64 a0, .int .i64 a1, .int .i64 a2, .int .i64 a3, .int .i64 a4, .int .i64 a5, .int .i64 a6] 48) = W0 at *
  clear hW0
  have HS0 := Lib.hid hs0
  clear hs0
  generalize hB : w.heap.size = B at *
  have HB := Lib.hid hB
  clear hB
  go_loopw [5, 10] (fun s i wr => ∃ k : Nat, k ≤ m ∧ i = .int .i64 k ∧ s = .int .i64 (cntL l (L.take k) : Nat) ∧ Hid (RowN wr C 52 3 (.slice A m c) L) ∧ Hid (Arr wr B [a0, a1, a2, a3, a4, a5, a6]) ∧ Below B w wr) (fun _ i _ => m - (intOf i).toNat)
  case atStart => exact ⟨0, Nat.zero_le _, rfl, by simp [cntL], hr0, hw0, hb0⟩
  case round =>
    obtain ⟨k, hk, rfl, rfl, hrd, harr, hbl⟩ := hrel
    clear hr0 hw0 hb0
    have hBw := harr.out.lt
    have HBL := Lib.hid hbl
    clear hbl
    by_cases hlt : k < m
    · have hkl : k < L.length := by rw [← HL.out]; exact hlt
      obtain ⟨g, c', e0, _, hgs, _, _, _, _⟩ := hrd.out.elem hkl
      rw [← HL.out] at e0
      injection e0 with e1 _ e3
      subst e3
      subst e1
      have HKL := Lib.hid hkl
      obtain ⟨x, y, z, e, hx, hy, hz⟩ := HM.out _ (rowK_mem hkl)
      have HE := Lib.hid e
      have HC := Lib.hid (fun W => HH.out x y z W hx hy hz)
      have HS := Lib.hid (cnt_step l L k hkl)
      rw [e] at HS
      have hle := cnt_take l L k
      have hlt1 := HLT.out g rfl
      clear e hx hy hz hkl
      obtain ⟨s, hs⟩ : ∃ s, s = cntL l (L.take k) := ⟨_, rfl⟩
      rw [← hs] at hle HS ⊢
      clear hs
      have HNT := Lib.hid (Blk.new (t := 52) wr [0, 0, 0])
      cases hh : has3 l [x, y, z] with
      | true =>
        rw [hh] at HC HS
        clear hh
        go_wp2_with (first
          | (refine load_elem rfl _ 52 rfl _ rfl Try.underlying52 g m c C k 3 L hrd HKL.out three_size rfl ?_; rw [HE.out])
          | (refine store_tri rfl _ _ rfl wr.heap.size zero3 [x, y, z] rfl rfl rfl rfl HNT ?_; intro w6 HB6 hg6 hs6; have h6 : Hid (Below wr.heap.size wr w6) := Lib.hid (((Below.refl _ _).alloc (Nat.le_refl _) _).grown hg6 (by simp) (by simp)); have HA6 := Lib.hid (harr.out.below h6.out hBw))
          | (refine load_ring rfl _ rfl B [a0, a1, a2, a3, a4, a5, a6] rfl rfl HA6 ?_)
          | (refine load_tri rfl _ rfl wr.heap.size [x, y, z] rfl rfl HB6 ?_)
          | (go_at_call 53; refine (HC.out _).mono ?_; rintro e w7 ⟨rfl, hb7⟩; have h7 : Hid (Below wr.heap.size wr w7) := Lib.hid (h6.out.trans (hb7.mono h6.out.size))))
        go_wp2
        go_roundw
        case rel => exact ⟨k + 1, by omega, by go_num, by rw [HS.out]; go_num, Lib.hid (hrd.out.below h7.out (fun i hi => (hrd.out.lt i hi).2)), Lib.hid (harr.out.below h7.out hBw), HBL.out.trans (h7.out.mono (by omega))⟩
        case measure => simp [intOf]; omega
      | false =>
        rw [hh] at HC HS
        clear hh
        go_wp2_with (first
          | (refine load_elem rfl _ 52 rfl _ rfl Try.underlying52 g m c C k 3 L hrd HKL.out three_size rfl ?_; rw [HE.out])
          | (refine store_tri rfl _ _ rfl wr.heap.size zero3 [x, y, z] rfl rfl rfl rfl HNT ?_; intro w6 HB6 hg6 hs6; have h6 : Hid (Below wr.heap.size wr w6) := Lib.hid (((Below.refl _ _).alloc (Nat.le_refl _) _).grown hg6 (by simp) (by simp)); have HA6 := Lib.hid (harr.out.below h6.out hBw))
          | (refine load_ring rfl _ rfl B [a0, a1, a2, a3, a4, a5, a6] rfl rfl HA6 ?_)
          | (refine load_tri rfl _ rfl wr.heap.size [x, y, z] rfl rfl HB6 ?_)
          | (go_at_call 53; refine (HC.out _).mono ?_; rintro e w7 ⟨rfl, hb7⟩; have h7 : Hid (Below wr.heap.size wr w7) := Lib.hid (h6.out.trans (hb7.mono h6.out.size))))
        go_wp2
        go_roundw
        case rel => exact ⟨k + 1, by omega, by go_num, by rw [HS.out]; rfl, Lib.hid (hrd.out.below h7.out (fun i hi => (hrd.out.lt i hi).2)), Lib.hid (harr.out.below h7.out hBw), HBL.out.trans (h7.out.mono (by omega))⟩
        case measure => simp [intOf]; omega
    · obtain rfl : k = m := by omega
      have e : L.take k = L := List.take_of_length_le (by rw [HL.out]; omega)
      rw [e]
      go_wp2
      go_ret
      exact ⟨rfl, by rw [HB.out]; exact HBL.out⟩

/-! ### All rings of n points -/
theorem mem_erase (left : List Int) (p : Nat) (x : Int) (hx : x ∈ left) : x = left.getD p 0 ∨ x ∈ left.eraseIdx p := by
  rcases Nat.lt_or_ge p left.length with hp | hp
  · rw [List.eraseIdx_eq_take_drop_succ, List.mem_append]
    rw [← List.take_append_drop p left, List.mem_append] at hx
    rcases hx with hx | hx
    · exact .inr (.inl hx)
    · rw [List.drop_eq_getElem_cons hp, List.mem_cons] at hx
      rcases hx with hx | hx
      · left; rw [hx]; simp [List.getD, hp]
      · exact .inr (.inr hx)
  · rw [List.eraseIdx_of_length_le hp]; exact .inr hx
theorem takeBy_all : ∀ (m : Nat) (left : List Int) (k : Int), m ≤ 7 → left.length = m → 0 ≤ k → k < facN m → ∀ x ∈ left, x ∈ takeBy m left k
  | 0, left, _, _, hl, _, _, x, hx => by rw [List.eq_nil_of_length_eq_zero hl] at hx; simp at hx
  | m + 1, left, k, hm, hl, h0, hk, x, hx => by
    obtain ⟨h1, h2, h3, h4⟩ := place_bd m k (by omega) h0 hk
    rw [takeBy, List.mem_cons]
    rcases mem_erase left (k / facN m).toNat x hx with h | h
    · exact .inl h
    · right
      exact takeBy_all m _ _ (by omega) (by rw [List.length_eraseIdx_of_lt (by omega)]; omega) h3 h4 x h
theorem byL_has (n : Nat) (k : Int) (h7 : n ≤ 7) (h0 : 0 ≤ k) (hk : k < facN n) (x : Int) (hx0 : 0 ≤ x) (hxn : x < n) : x ∈ byL n k := by
  refine takeBy_all n _ k h7 (by simp) h0 hk x ?_
  simp only [upFrom, List.mem_map, List.mem_range]
  exact ⟨x.toNat, by omega, by omega⟩
theorem facN_le (m : Nat) (h : m ≤ 6) : facN m ≤ facN (m + 1) ∧ 1 ≤ facN m ∧ facN m ≤ 720 := by
  obtain rfl | rfl | rfl | rfl | rfl | rfl | rfl : m = 0 ∨ m = 1 ∨ m = 2 ∨ m = 3 ∨ m = 4 ∨ m = 5 ∨ m = 6 := by omega
  all_goals decide
def facM (n : Nat) : Nat := (facN (n - 1)).toNat
def ringsL (n : Nat) : List (List Int) := (List.range (facM n)).map fun k : Nat => byL n (k : Int)
theorem ringsL_length (n : Nat) : (ringsL n).length = facM n := by simp [ringsL]
theorem facM_eq (n : Nat) (h3 : 3 ≤ n) (h6 : n ≤ 6) : (facM n : Int) = facN (n - 1) ∧ facM n ≤ 720 ∧ 1 ≤ facM n ∧ facN (n - 1) ≤ facN n := by
  obtain ⟨h1, h2, h3'⟩ := facN_le (n - 1) (by omega)
  rw [show n - 1 + 1 = n by omega] at h1
  unfold facM
  exact ⟨by omega, by omega, by omega, h1⟩
/-- What is known of each ring of n points. -/
def IsR (n : Nat) (l : List Int) : Prop := l.length = n ∧ (∀ x ∈ l, 0 ≤ x) ∧ ∀ x : Int, 0 ≤ x → x < n → x ∈ l
theorem byL_is (n k : Nat) (h3 : 3 ≤ n) (h6 : n ≤ 6) (hk : k < facM n) : IsR n (byL n k) := by
  obtain ⟨h1, _, _, h4⟩ := facM_eq n h3 h6
  exact ⟨byL_length n k, byL_pos n k (by omega) (by omega) (by omega), fun x hx0 hxn => byL_has n k (by omega) (by omega) (by omega) x hx0 hxn⟩
theorem ringsL_is (n : Nat) (h3 : 3 ≤ n) (h6 : n ≤ 6) : ∀ l ∈ ringsL n, IsR n l := fun l hl => by
  simp only [ringsL, List.mem_map, List.mem_range] at hl
  obtain ⟨k, hk, rfl⟩ := hl
  exact byL_is n k h3 h6 hk
theorem IsR.mem3 {n : Nat} {l : List Int} (h : IsR n l) {L : List (List Int)} (hL : ∀ t ∈ L, Thr (n : Int) t) : Mem3 l L := fun t ht => by
  obtain ⟨x, y, z, rfl⟩ := of_three (hL t ht).1
  have hm := (hL _ ht).2.1
  exact ⟨x, y, z, rfl, h.2.2 x (hm x (by simp)).1 (hm x (by simp)).2, h.2.2 y (hm y (by simp)).1 (hm y (by simp)).2, h.2.2 z (hm z (by simp)).1 (hm z (by simp)).2⟩
end Go.Proofs.Ytdlgabefbomleaa
