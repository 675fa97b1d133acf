/- All rings in order: the maths; the program's row. -/
import Derived.Test.YtgojojoanhilnabDoorByI
import Derived.Test.YtgojojoanhilnabDoorByS
import Derived.Test.YtgojojoanhilnabDoorPE
import Derived.Deep.RegionHeld3
namespace Go.Proofs.YtgojojoanhilnabDoor
open Go.ChangeShapes Go.WideShapes Go.ChangeAt Go.RowKit

theorem mem_erase (left : List Int) (p : Nat) (x : Int) (hx : x ∈ left) : x = left.getD p 0 ∨ x ∈ left.eraseIdx p := by
  rcases Nat.lt_or_ge p left.length with hp | hp
  · rw [List.eraseIdx_eq_take_drop_succ, List.mem_append]
    rw [← List.take_append_drop p left, List.mem_append] at hx
    rcases hx with hx | hx
    · exact .inr (.inl hx)
    · rw [List.drop_eq_getElem_cons hp, List.mem_cons] at hx
      rcases hx with hx | hx
      · left; rw [hx]; simp [List.getD, hp]
      · exact .inr (.inr hx)
  · rw [List.eraseIdx_of_length_le hp]; exact .inr hx
theorem takeBy_all : ∀ (m : Nat) (left : List Int) (k : Int), m ≤ 7 → left.length = m → 0 ≤ k → k < facN m → ∀ x ∈ left, x ∈ takeBy m left k
  | 0, left, _, _, hl, _, _, x, hx => by rw [List.eq_nil_of_length_eq_zero hl] at hx; simp at hx
  | m + 1, left, k, hm, hl, h0, hk, x, hx => by
    obtain ⟨h1, h2, h3, h4⟩ := place_bd m k (by omega) h0 hk
    rw [takeBy, List.mem_cons]
    rcases mem_erase left (k / facN m).toNat x hx with h | h
    · exact .inl h
    · right
      exact takeBy_all m _ _ (by omega) (by rw [List.length_eraseIdx_of_lt (by omega)]; omega) h3 h4 x h
theorem byL_has (n : Nat) (k : Int) (h7 : n ≤ 7) (h0 : 0 ≤ k) (hk : k < facN n) (x : Int) (hx0 : 0 ≤ x) (hxn : x < n) : x ∈ byL n k := by
  refine takeBy_all n _ k h7 (by simp) h0 hk x ?_
  simp only [upFrom, List.mem_map, List.mem_range]
  exact ⟨x.toNat, by omega, by omega⟩
theorem facN_le (m : Nat) (h : m ≤ 6) : facN m ≤ facN (m + 1) ∧ 1 ≤ facN m ∧ facN m ≤ 720 := by
  obtain rfl | rfl | rfl | rfl | rfl | rfl | rfl : m = 0 ∨ m = 1 ∨ m = 2 ∨ m = 3 ∨ m = 4 ∨ m = 5 ∨ m = 6 := by omega
  all_goals decide
def facM (n : Nat) : Nat := (facN (n - 1)).toNat
def ringsL (n : Nat) : List (List Int) := (List.range (facM n)).map fun k : Nat => byL n (k : Int)
theorem ringsL_length (n : Nat) : (ringsL n).length = facM n := by simp [ringsL]
theorem facM_eq7 (n : Nat) (h3 : 3 ≤ n) (h6 : n ≤ 7) : (facM n : Int) = facN (n - 1) ∧ facM n ≤ 720 ∧ 1 ≤ facM n ∧ facN (n - 1) ≤ facN n := by
  obtain ⟨h1, h2, h3'⟩ := facN_le (n - 1) (by omega)
  rw [show n - 1 + 1 = n by omega] at h1
  unfold facM
  exact ⟨by omega, by omega, by omega, h1⟩
theorem facM_eq (n : Nat) (h3 : 3 ≤ n) (h6 : n ≤ 6) : (facM n : Int) = facN (n - 1) ∧ facM n ≤ 720 ∧ 1 ≤ facM n ∧ facN (n - 1) ≤ facN n := facM_eq7 n h3 (by omega)
/-- What is known of each ring of n points. -/
def IsR (n : Nat) (l : List Int) : Prop := l.length = n ∧ (∀ x ∈ l, 0 ≤ x) ∧ ∀ x : Int, 0 ≤ x → x < n → x ∈ l
theorem byL_is7 (n k : Nat) (h3 : 3 ≤ n) (h6 : n ≤ 7) (hk : k < facM n) : IsR n (byL n k) := by
  obtain ⟨h1, _, _, h4⟩ := facM_eq7 n h3 h6
  exact ⟨byL_length n k, byL_pos n k (by omega) (by omega) (by omega), fun x hx0 hxn => byL_has n k (by omega) (by omega) (by omega) x hx0 hxn⟩
theorem byL_is (n k : Nat) (h3 : 3 ≤ n) (h6 : n ≤ 6) (hk : k < facM n) : IsR n (byL n k) := byL_is7 n k h3 (by omega) hk
theorem ringsL_is (n : Nat) (h3 : 3 ≤ n) (h6 : n ≤ 6) : ∀ l ∈ ringsL n, IsR n l := fun l hl => by
  simp only [ringsL, List.mem_map, List.mem_range] at hl
  obtain ⟨k, hk, rfl⟩ := hl
  exact byL_is n k h3 h6 hk
theorem enters_fn {f : FuncId} {fn : Func} (hf : Tryd.prog.funcs[f]? = some fn) (hn : (fn.name == "runtime.NumGoroutine") = false) (hb : fn.body.isNone = false) (args : Array Value) (w : World) : (callFunc f args).run Tryd.prog w = .ok (.enter f args) w := by
  have h1 : ¬ fn.name = "runtime.NumGoroutine" := by simpa using hn
  have h2 : ¬ fn.body = none := by
    intro e
    rw [e] at hb
    cases hb
  simp [callFunc, go_sem, hf, h1, h2]

def padM (M : List (List Int)) : List (List Int) := M.map padR
def unpad (P : List Int) : List Int := P.filter fun x => decide (0 ≤ x)
theorem unpad_pad (l : List Int) (h : ∀ x ∈ l, 0 ≤ x) : unpad (padR l) = l := by
  unfold unpad padR
  rw [List.filter_append, List.filter_eq_self.2 (fun x hx => by simpa using h x hx)]
  have e : (List.replicate (7 - l.length) (-1 : Int)).filter (fun x => decide (0 ≤ x)) = [] := by
    rw [List.filter_eq_nil_iff]
    intro x hx
    rw [(List.mem_replicate.1 hx).2]; decide
  rw [e, List.append_nil]
theorem filter_pad (M : List (List Int)) (q : List Int → Bool) (h : ∀ l ∈ M, ∀ x ∈ l, 0 ≤ x) : (padM M).filter (fun P => q (unpad P)) = padM (M.filter q) := by
  induction M with
  | nil => rfl
  | cons l M ih =>
    have e := unpad_pad l (h l (by simp))
    have ih' := ih (fun r hr => h r (by simp [hr]))
    simp only [padM, List.map_cons, List.filter_cons, e] at ih' ⊢
    rw [ih']
    cases q l <;> simp
theorem made_ring (n : Nat) : (madeCells #[Value.int .i64 0, Value.int .i64 0, Value.int .i64 0, Value.int .i64 0, Value.int .i64 0, Value.int .i64 0, Value.int .i64 0] (n * 7)).toList = ints (List.replicate n zero7).flatten := by
  rw [made_cells _ (.int .i64 0) (by decide) (fun i hi => by
    simp only [List.size_toArray, List.length_cons, List.length_nil] at hi
    obtain rfl | rfl | rfl | rfl | rfl | rfl | rfl : i = 0 ∨ i = 1 ∨ i = 2 ∨ i = 3 ∨ i = 4 ∨ i = 5 ∨ i = 6 := by omega
    all_goals rfl)]
  rw [show zero7 = List.replicate 7 0 from rfl, List.flatten_replicate_replicate, ints, List.map_replicate]

def mixR (M : List (List Int)) (m k : Nat) : List (List Int) := M.take k ++ List.replicate (m - k) zero7
theorem mixR_length (L : List (List Int)) (m k : Nat) (hL : L.length = m) (hk : k ≤ m) : (mixR L m k).length = m := by simp [mixR]; omega
theorem mixR_step (L : List (List Int)) (m k : Nat) (hL : L.length = m) (hk : k < m) : (mixR L m k).set k (rowK L k) = mixR L m (k + 1) := by
  unfold mixR
  have hl : (L.take k).length = k := by simp; omega
  rw [List.set_append_right _ _ (by omega), hl, Nat.sub_self]
  obtain ⟨d, hd⟩ : ∃ d, m - k = d + 1 := ⟨m - k - 1, by omega⟩
  rw [hd, show m - (k + 1) = d by omega, List.replicate_succ, List.set_cons_zero, List.take_succ_eq_append_getElem (by omega), List.append_assoc]
  simp [rowK, List.getD, show k < L.length by omega]
theorem mixR_full (L : List (List Int)) (m : Nat) (hL : L.length = m) : mixR L m m = L := by simp [mixR, ← hL]

set_option maxRecDepth 10000 in
set_option maxHeartbeats 1000000 in
theorem allRings7_any (n : Nat) (w : World) (h3 : 3 ≤ n) (h6 : n ≤ 7) :
    Calls Tryd.prog 44 #[.int .i64 (n : Int)] w fun e w' => ∃ v, e = .returned v ∧ RowN w' w.heap.size 49 7 v (padM (ringsL n)) ∧ Below w.heap.size w w' := by
  obtain ⟨i0, hi, hz0, hz1, hz2⟩ := info_parts ring_info
  obtain ⟨hf1, hf2, hf3, hf4⟩ := facM_eq7 n h3 h6
  have HFM := Lib.hid hf1
  obtain ⟨N, hN⟩ : ∃ N, N = facM n := ⟨_, rfl⟩
  rw [← hN] at HFM hf2
  have HN := Lib.hid hN
  have hPL : (padM (ringsL n)).length = N := by simp [padM, ringsL_length, hN]
  have HPL := Lib.hid hPL
  have HFACT := Lib.hid (fun W => facI_nat (n - 1) ((n : Int) - 1) W (by omega) (by omega))
  rw [← HFM.out] at HFACT
  have HNB := Lib.hid (fun (k : Nat) (hk : k < N) W => numbered_any n (k : Int) W h3 (by omega) (by omega) (by have := HFM.out; omega))
  have HROW : Hid (∀ k, k < N → rowK (padM (ringsL n)) k = padR (byL n (k : Int))) := fun k hk => by
    simp [padM, ringsL, rowK, List.getD, show k < facM n by omega]
  have H7 := Lib.hid (fun (k : Nat) => padR_length (byL n (k : Int)) (by rw [byL_length]; omega))
  clear hf1 hf3 hf4 hN hPL
  go_enter Tryd.func44, Tryd.ntmps44
  go_wp2_with (first
    | (go_at_call 33; refine (HFACT.out _).mono ?_; rintro e w' ⟨rfl, rfl⟩)
    | (at_make; refine wpList_make_full _ rfl _ _ 43 rfl w.heap.size 49 i0 (.agg #[.int .i64 0, .int .i64 0, .int .i64 0, .int .i64 0, .int .i64 0, .int .i64 0, .int .i64 0]) 7 Tryd.underlying43 hi hz0 hz1 .i64 .i64 _ _ N rfl rfl rfl rfl (by rw [hz2]; omega) (by unfold maxLen; omega) (Nat.le_refl _) ?_))
  intro w1 hown hgrow
  have hb1 : Below w.heap.size w w1 := (Below.refl _ _).grown hgrow (Nat.le_refl _) (by simp)
  obtain ⟨M, hM⟩ : ∃ M, M = padM (ringsL n) := ⟨_, rfl⟩
  rw [← hM] at HPL HROW
  have HM := Lib.hid hM
  clear hM
  have hf1 : Hid (RowN w1 w.heap.size 49 7 (.slice (some ⟨w.heap.size, 0, none⟩) N N) (mixR M N 0)) := by
    rw [made_ring] at hown
    refine ⟨?_, ?_⟩
    · intro l hl
      simp [mixR] at hl
      rw [hl.2]; rfl
    · rw [mixR_length M N 0 HPL.out (by omega)]
      simpa [mixR] using hown
  clear hown hgrow
  generalize hB : w.heap.size = B at *
  have HB := Lib.hid hB
  clear hB
  have hBs : B ≤ w1.heap.size := by rw [← HB.out]; exact hb1.size
  go_wp2
  go_loopw [11] (fun i wr => ∃ k : Nat, k ≤ N ∧ i = .int .i64 k ∧ Hid (RowN wr B 49 7 (.slice (some ⟨B, 0, none⟩) N N) (mixR M N k)) ∧ Below B w wr) (fun i _ => N - (intOf i).toNat)
  case atStart => exact ⟨0, Nat.zero_le _, rfl, hf1, hb1⟩
  case round =>
    obtain ⟨k, hk, rfl, hf, hbl⟩ := hrel
    clear hf1 hb1
    have HBL := Lib.hid hbl
    have hBw : B ≤ wr.heap.size := by rw [← HB.out]; exact hbl.size
    clear hbl
    by_cases hlt : k < N
    · have HC := Lib.hid (HNB.out k hlt)
      have HST := Lib.hid (mixR_step M N k HPL.out hlt)
      rw [HROW.out k hlt] at HST
      have HLN := Lib.hid (mixR_length M N k HPL.out hk)
      have H77 := Lib.hid (H7.out k)
      go_wp2_with (first
        | (go_at_call 68; refine (HC.out _).mono ?_; rintro e w2 ⟨rfl, hb2⟩; have HF2 := Lib.hid (hf.out.below hb2 (fun i hi => (hf.out.lt i hi).2)))
        | (refine store_elem rfl _ _ 49 rfl B N N B k 7 (mixR M N k) (padR (byL n (k : Int))) HF2 (by rw [HLN.out]; exact hlt) H77.out ring_size rfl rfl ?_; intro w8 HR8 hg8))
      rw [HST.out] at HR8
      go_wp2
      go_roundw
      case rel => exact ⟨k + 1, by omega, by go_num, HR8, (HBL.out.trans (hb2.mono hBw)).grown hg8 (by have := hb2.size; omega) (by simp)⟩
      case measure => simp [intOf]; omega
    · obtain rfl : k = N := by omega
      rw [mixR_full M k HPL.out] at hf
      go_wp2
      go_ret
      refine ⟨.slice (some ⟨B, 0, none⟩) k k, rfl, ?_, by rw [HB.out]; exact HBL.out⟩
      rw [HB.out, ← HM.out]; exact hf.out
theorem allRings_any (n : Nat) (w : World) (h3 : 3 ≤ n) (h6 : n ≤ 6) :
    Calls Tryd.prog 44 #[.int .i64 (n : Int)] w fun e w' => ∃ v, e = .returned v ∧ RowN w' w.heap.size 49 7 v (padM (ringsL n)) ∧ Below w.heap.size w w' := allRings7_any n w h3 (by omega)

theorem IsR.tell {n : Nat} {l : List Int} (h : IsR n l) (h3 : 3 ≤ n) (h7 : n ≤ 7) : Tell l := by
  have := nodup_of_all n l h.1 (fun j hj => h.2.2 j (by omega) (by omega))
  exact ⟨by rw [h.1]; exact h3, by rw [h.1]; exact h7, fun x hx => by rw [h.1]; exact this.2 x hx, this.1⟩
end Go.Proofs.YtgojojoanhilnabDoor
