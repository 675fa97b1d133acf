/- Tellings: the model's check, the program's reading. -/
import Derived.Test.YtjpbmhlojpaieaaDoorEachT
import Derived.Test.YtjpbmhlojpaieaaDoorReadT
namespace Go.Proofs.YtjpbmhlojpaieaaDoor
open Go.ChangeShapes Go.WideShapes Go.ChangeAt Go.RowKit

/-- At most forty threes of n points, three to six. -/
def Tel (n : Int) (L : List (List Int)) : Prop := 3 ≤ n ∧ n ≤ 6 ∧ L.length ≤ 40 ∧ ∀ l ∈ L, Thr n l
instance (n : Int) (L : List (List Int)) : Decidable (Tel n L) := by unfold Tel; infer_instance
def tel (n : Int) (L : List (List Int)) : Bool := decide (Tel n L)
def telL (n : Int) (L : List (List Int)) : List (List Int) := if Tel n L then L else []
theorem tel_yes {n : Int} {L : List (List Int)} (h : Tel n L) : tel n L = true ∧ telL n L = L := ⟨by simpa [tel] using h, by rw [telL, if_pos h]⟩
theorem tel_no {n : Int} {L : List (List Int)} (h : ¬ Tel n L) : tel n L = false ∧ telL n L = [] := ⟨by simpa [tel] using h, by rw [telL, if_neg h]⟩
def TelTo (n : Int) (L : List (List Int)) (k : Nat) : Prop := ∀ j, j < k → Thr n (rowK L j)
theorem tel_step {n : Int} {L : List (List Int)} {k : Nat} (h : TelTo n L k) (hk : Thr n (rowK L k)) : TelTo n L (k + 1) := fun j hj => by
  rcases Nat.lt_succ_iff_lt_or_eq.1 hj with hj | rfl
  · exact h j hj
  · exact hk
theorem tel_all {n : Int} {L : List (List Int)} (h : TelTo n L L.length) : ∀ l ∈ L, Thr n l := fun l hl => by
  obtain ⟨j, hj, rfl⟩ := List.getElem_of_mem hl
  have := h j hj
  simpa [rowK, List.getD, hj] using this
theorem tel_stop {n : Int} {L : List (List Int)} {k : Nat} (hk : k < L.length) (h : ¬ Thr n (rowK L k)) : ¬ Tel n L := fun ht => h (ht.2.2.2 _ (rowK_mem hk))

set_option maxHeartbeats 400000 in
theorem telS_any (A : Option Addr) (m c H : Nat) (L : List (List Int)) (n : Int) (w : World) (h : RdS w H A m L) (hm : m ≤ 1048576) :
    Calls Tryd.prog 33 #[.int .i64 n, .slice A m c] w fun e w' => e = .returned (.bool (tel n L)) ∧ ∃ q, w' = w.drewN q := by
  have HL := Lib.hid h.len
  by_cases hn : 3 ≤ n ∧ n ≤ 6
  · have hb : (decide (3 ≤ n) && decide (n ≤ 6)) = true := by simp; omega
    obtain ⟨h3, h6⟩ := hn
    go_enter Tryd.func33, Tryd.ntmps33
    go_wp2_with (go_at_call 27; refine (in_any _ _ _ _).mono ?_; rintro e w' ⟨rfl, rfl⟩)
    clear hb
    go_loopw [5] (fun i wr => ∃ k : Nat, k ≤ m ∧ i = .int .i64 k ∧ Hid (TelTo n L k) ∧ RdS wr H A m L ∧ ∃ q, wr = w.drewN q) (fun i _ => m - (intOf i).toNat)
    case atStart => exact ⟨0, Nat.zero_le _, rfl, fun j hj => absurd hj (by omega), h, 0, rfl⟩
    case round =>
      obtain ⟨k, hk, rfl, hto, hrd, q, hq⟩ := hrel
      have HQ := Lib.hid hq
      clear hq h
      by_cases hlt : k < m
      · obtain ⟨b, o, rfl, hbB, hcs⟩ := hrd.at_ (by omega)
        obtain ⟨Ak, ck, hc, hr, hz, hcm⟩ := hcs k hlt
        have HC := Lib.hid (l2Three_any Ak _ ck H (rowK L k) n wr hr (by omega) h3 (by omega))
        have HS := Lib.hid (tel_stop (n := n) (L := L) (k := k) (by rw [HL.out]; exact hlt))
        have HT := Lib.hid (tel_step hto.out)
        clear hcs hr hcm hz
        generalize (rowK L k).length = z at *
        by_cases ht : Thr n (rowK L k)
        · have T1 := Lib.hid (HT.out ht)
          rw [(thr_yes ht).1] at HC
          clear HT HS ht
          go_wp2_with (go_at_call 61; refine HC.out.mono ?_; rintro e w' ⟨rfl, p, rfl⟩)
          go_roundw
          case rel => exact ⟨k + 1, by omega, by go_num, T1, hrd.drewN _, q + p, by rw [HQ.out, World.drewN_drewN]⟩
          case measure => simp [intOf]; omega
        · have T1 := Lib.hid (tel_no (HS.out ht))
          rw [(thr_no ht).1] at HC
          clear HT HS ht
          go_wp2_with (go_at_call 61; refine HC.out.mono ?_; rintro e w' ⟨rfl, p, rfl⟩)
          go_ret
          exact ⟨by rw [T1.out.1]; rfl, q + p, by rw [HQ.out, World.drewN_drewN]⟩
      · obtain rfl : k = m := by omega
        have hto' := hto.out
        rw [← HL.out] at hto'
        have T1 : Hid (tel n L = decide ((k : Int) ≤ 40)) := by
          simp only [Hid, tel, decide_eq_decide]
          have := HL.out
          constructor
          · intro hh; have := hh.2.2.1; omega
          · intro hh; exact ⟨h3, h6, by omega, tel_all hto'⟩
        clear hto'
        go_wp2
        go_ret
        exact ⟨by rw [T1.out]; rfl, q, HQ.out⟩
  · have hb : (decide (3 ≤ n) && decide (n ≤ 6)) = false := by simp; omega
    have T1 := Lib.hid (tel_no (n := n) (L := L) (fun hh => hn ⟨hh.1, hh.2.1⟩))
    clear hn
    go_enter Tryd.func33, Tryd.ntmps33
    go_wp2_with (go_at_call 27; refine (in_any _ _ _ _).mono ?_; rintro e w' ⟨rfl, rfl⟩)
    go_ret
    exact ⟨by rw [T1.out.1]; rfl, 0, rfl⟩

theorem asked_any (n : Int) (w : World) :
    Calls Tryd.prog 63 #[.int .i64 n] w fun e w' => e = .returned (.bool (decide (3 ≤ n) && decide (n ≤ 6))) ∧ w = w' := by
  by_cases h : 3 ≤ n
  all_goals
    go_enter Tryd.func63, Tryd.ntmps63
    go_wp2
    all_goals
      go_ret
      exact ⟨by first | (simp_all; done) | (simp_all; omega), rfl⟩

/-- The first k threes, noughts behind. -/
def mixT (L : List (List Int)) (m k : Nat) : List (List Int) := L.take k ++ List.replicate (m - k) zero3
theorem mixT_length (L : List (List Int)) (m k : Nat) (hL : L.length = m) (hk : k ≤ m) : (mixT L m k).length = m := by simp [mixT]; omega
theorem mixT_step (L : List (List Int)) (m k : Nat) (hL : L.length = m) (hk : k < m) : (mixT L m k).set k (rowK L k) = mixT L m (k + 1) := by
  unfold mixT
  have hl : (L.take k).length = k := by simp; omega
  rw [List.set_append_right _ _ (by omega), hl, Nat.sub_self]
  obtain ⟨d, hd⟩ : ∃ d, m - k = d + 1 := ⟨m - k - 1, by omega⟩
  rw [hd, show m - (k + 1) = d by omega, List.replicate_succ, List.set_cons_zero, List.take_succ_eq_append_getElem (by omega), List.append_assoc]
  simp [rowK, List.getD, show k < L.length by omega]
theorem mixT_full (L : List (List Int)) (m : Nat) (hL : L.length = m) : mixT L m m = L := by simp [mixT, ← hL]
theorem made_all (z : Array Value) (c : Value) (hz : 0 < z.size) (h : ∀ i, i < z.size → z[i]! = c) (n : Nat) : (madeCells z n).toList = List.replicate n c := by
  apply List.ext_getElem?
  intro j
  by_cases hj : j < n
  · simp only [madeCells, Array.toList_map, Array.toList_range, List.getElem?_map, List.getElem?_range hj, List.getElem?_replicate, if_pos hj, Option.map_some]
    rw [h _ (Nat.mod_lt _ hz)]
  · simp [madeCells, hj]
theorem made_three (n : Nat) : (madeCells #[Value.int .i64 0, Value.int .i64 0, Value.int .i64 0] (n * 3)).toList = ints (List.replicate n zero3).flatten := by
  rw [made_all _ (.int .i64 0) (by decide) (fun i hi => by
    simp only [List.size_toArray, List.length_cons, List.length_nil] at hi
    obtain rfl | rfl | rfl : i = 0 ∨ i = 1 ∨ i = 2 := by omega
    all_goals rfl)]
  rw [show zero3 = List.replicate 3 0 from rfl, List.flatten_replicate_replicate, ints, List.map_replicate]

set_option maxRecDepth 10000 in
set_option maxHeartbeats 1000000 in
theorem readThrees_any (A : Option Addr) (m c H : Nat) (L : List (List Int)) (n : Int) (w : World) (h : RdS w H A m L) (hH : H ≤ w.heap.size) :
    Calls Tryd.prog 37 #[.int .i64 n, .slice A m c] w fun e w' => ∃ v, e = .returned (.tuple #[v, .bool (tel n L)]) ∧ RowN w' w.heap.size 69 3 v (telL n L) ∧ Below w.heap.size w w' := by
  obtain ⟨i0, hi, hz0, hz1, hz2⟩ := info_parts three_info
  have HL := Lib.hid h.len
  by_cases hn : (3 ≤ n ∧ n ≤ 6) ∧ m ≤ 40
  rotate_left
  · have T1 := Lib.hid (tel_no (n := n) (L := L) (fun hh => hn ⟨⟨hh.1, hh.2.1⟩, by rw [← HL.out]; exact hh.2.2.1⟩))
    have hno : RowN w w.heap.size 69 3 (.slice none 0 0) [] := ⟨by simp, World.ownsRow_nil _ _ _ _⟩
    by_cases h3 : 3 ≤ n ∧ n ≤ 6
    · have hb : (decide (3 ≤ n) && decide (n ≤ 6)) = true := by simp; omega
      have hm : decide ((40 : Int) < (m : Int)) = true := by simp; omega
      clear hn h3
      go_enter Tryd.func37, Tryd.ntmps37
      go_wp2_with (go_at_call 63; refine (asked_any _ _).mono ?_; rintro e w' ⟨rfl, rfl⟩)
      go_ret2
      exact ⟨_, by rw [T1.out.1]; rfl, by rw [T1.out.2]; exact hno, Below.refl _ _⟩
    · have hb : (decide (3 ≤ n) && decide (n ≤ 6)) = false := by simp; omega
      clear hn h3
      go_enter Tryd.func37, Tryd.ntmps37
      go_wp2_with (go_at_call 63; refine (asked_any _ _).mono ?_; rintro e w' ⟨rfl, rfl⟩)
      go_ret2
      exact ⟨_, by rw [T1.out.1]; rfl, by rw [T1.out.2]; exact hno, Below.refl _ _⟩
  · obtain ⟨⟨h3, h6⟩, hm⟩ := hn
    have hb : (decide (3 ≤ n) && decide (n ≤ 6)) = true := by simp; omega
    have hm' : decide ((40 : Int) < (m : Int)) = false := by simp; omega
    have T1 : Hid (tel n L = allB (thr n) L ∧ telL n L = allL (thr n) L) := by
      have key : tel n L = allB (thr n) L := by
        have := HL.out
        rw [tel, Bool.eq_iff_iff, decide_eq_true_eq, allB_iff]
        constructor
        · exact fun hh l hl => by simpa [thr] using hh.2.2.2 l hl
        · exact fun hh => ⟨h3, h6, by omega, fun l hl => by simpa [thr] using hh l hl⟩
      refine ⟨key, ?_⟩
      rw [telL, allL, ← key]
      by_cases ht : Tel n L
      · rw [if_pos ht, if_pos (tel_yes ht).1]
      · rw [if_neg ht, if_neg (by rw [(tel_no ht).1]; simp)]
    have HE := Lib.hid (each_thr A m c H L n w h hH (by omega))
    rw [T1.out.1, T1.out.2]
    clear h T1
    generalize allB (thr n) L = r at *
    generalize allL (thr n) L = M at *
    go_enter Tryd.func37, Tryd.ntmps37
    go_wp2_with (go_at_call 63; refine (asked_any _ _).mono ?_; rintro e w' ⟨rfl, rfl⟩)
    refine HE.out.mono ?_
    rintro e w1 ⟨v, rfl, hv, hb1⟩
    have HV := Lib.hid hv
    have HB := Lib.hid hb1
    clear hv hb1 HE
    go_wp2
    go_ret2
    exact ⟨v, rfl, HV.out, HB.out⟩
end Go.Proofs.YtjpbmhlojpaieaaDoor
