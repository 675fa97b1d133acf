/- All pairs in order: the program's row. -/
import Derived.Test.YtamnacgclhaggabAllP
namespace Go.Proofs.Ytamnacgclhaggab
open Go.ChangeShapes Go.WideShapes Go.ChangeAt Go.RowKit

theorem rowN_snoc {w w' : World} {B m : Nat} {t : TypeId} {v v' : Value} {M : List (List Int)} {l : List Int} (h : RowN w B t m v M) (hl : l.length = m) (ho : w'.ownsRow B t m v' (M.length + 1) (ints M.flatten ++ ints l)) : RowN w' B t m v' (M ++ [l]) := by
  refine ⟨fun r hr => ?_, ?_⟩
  · rcases List.mem_append.1 hr with h1 | h1
    · exact h.1 r h1
    · rw [List.mem_singleton.1 h1, hl]
  · rw [List.length_append, List.flatten_append, ints, List.map_append]
    simpa [ints] using ho
theorem rowN_empty (w : World) {B m : Nat} {t : TypeId} (hB : B ≤ w.heap.size) : RowN (w.alloc (.cells #[] t)) B t m (.slice (some ⟨w.heap.size, 0, none⟩) 0 0) [] :=
  ⟨by simp, by simp [ints], .inr ⟨w.heap.size, 0, #[], rfl, hB, heap_alloc_new w _, Nat.le_refl _, by decide, by simp, by simp [ints]⟩⟩

def p2 (a b : Nat) : List Int := [(a : Int), (b : Int)]
def pv (a b : Nat) : List (List Int) := (upto a b).map fun j => p2 a j
def pw (n a : Nat) : List (List Int) := (List.range a).flatMap fun j => pv j n
def pairsL (n : Nat) : List (List Int) := pw n n
theorem pv_self (a : Nat) : pv a (a + 1) = [] := by simp [pv, upto_self]
theorem pv_succ (a b : Nat) (h : a < b) : pv a (b + 1) = pv a b ++ [p2 a b] := by simp [pv, upto_succ a b h]
theorem pw_succ (n a : Nat) : pw n (a + 1) = pw n a ++ pv a n := by simp [pw, List.range_succ]
theorem pv_len (a b : Nat) : (pv a b).length ≤ b := by unfold pv; rw [List.length_map]; exact upto_len a b
theorem pw_len (n a : Nat) (hn : n ≤ 7) (h : a ≤ 7) : (pw n a).length ≤ 49 := by
  have h1 := flatMap_le (List.range a) (fun j => pv j n) 7 (fun x _ => by have := pv_len x n; omega)
  rw [List.length_range] at h1
  unfold pw; omega
theorem pairsL_mem {n : Nat} {e : List Int} (h : e ∈ pairsL n) : ∃ a b : Nat, e = p2 a b ∧ a < b ∧ b < n := by
  unfold pairsL pw pv at h
  simp only [List.mem_flatMap, List.mem_map] at h
  obtain ⟨a, _, b, hb, rfl⟩ := h
  have := upto_mem hb
  exact ⟨a, b, rfl, this.1, this.2⟩

set_option maxRecDepth 10000 in
set_option maxHeartbeats 2000000 in
theorem allPairs_any (n : Nat) (w : World) (hn : n ≤ 7) :
    Calls Try.prog 102 #[.int .i64 (n : Int)] w fun e w' => ∃ v, e = .returned v ∧ RowN w' w.heap.size 57 2 v (pairsL n) ∧ Below w.heap.size w w' := by
  obtain ⟨i0, hi, hz0, hz1, hz2⟩ := info_parts readPair_info
  have hg0 : Hid (RowN (w.alloc (.cells #[] 57)) w.heap.size 57 2 (.slice (some ⟨w.heap.size, 0, none⟩) 0 0) []) := rowN_empty w (Nat.le_refl _)
  have hb0 : Below w.heap.size w (w.alloc (.cells #[] 57)) := (Below.refl _ _).alloc (Nat.le_refl _) _
  go_enter Try.func102, Try.ntmps102
  go_wp2
  generalize (w.alloc (.cells #[] 57)) = W0 at *
  go_loopw [3, 8] (fun v i wr => ∃ a : Nat, a ≤ n ∧ i = .int .i64 a ∧ Hid (RowN wr w.heap.size 57 2 v (pw n a)) ∧ Below w.heap.size w wr) (fun _ i _ => n - (intOf i).toNat)
  case atStart => exact ⟨0, Nat.zero_le _, rfl, by simpa [pw, Hid] using hg0, hb0⟩
  case round =>
    obtain ⟨a, ha, rfl, hga, hbla⟩ := hrel
    clear hg0 hb0
    by_cases hlta : a < n
    · go_wp2
      go_loopw [3, 5] (fun v i wr => ∃ b : Nat, b ≤ n ∧ a < b ∧ i = .int .i64 b ∧ Hid (RowN wr w.heap.size 57 2 v (pw n a ++ pv a b)) ∧ Below w.heap.size w wr) (fun _ i _ => n - (intOf i).toNat)
      case atStart => exact ⟨a + 1, by omega, by omega, by go_num, by simpa [pv_self, Hid] using hga, hbla⟩
      case round =>
        obtain ⟨b, hb, hab, rfl, hgb, hblb⟩ := hrel
        clear hga hbla
        by_cases hltb : b < n
        · have hnx : Hid (pw n a ++ pv a b ++ [[(a : Int), (b : Int)]] = pw n a ++ pv a (b + 1)) := by rw [Hid, pv_succ _ _ hab, List.append_assoc]; rfl
          have HML : Hid ((pw n a ++ pv a b).length ≤ 100) := by
            have h1 := pw_len n a hn (by omega)
            have h2 := pv_len a b
            simp only [Hid, List.length_append]; omega
          obtain ⟨M, hM⟩ : ∃ M, M = pw n a ++ pv a b := ⟨_, rfl⟩
          rw [← hM] at hgb hnx HML
          clear hM
          have hBs : w.heap.size ≤ wr.heap.size := hblb.size
          have HBZ := Lib.hid hblb
          have HX1 := Lib.hid hgb.out.2
          have HR := Lib.hid hgb.out
          have hkl : M.length ≤ 100 := HML.out
          clear hgb hblb
          go_wp2_with (at_builtin; refine wpList_append_own _ rfl _ _ 99 rfl w.heap.size 57 i0 (.agg #[.int .i64 0, .int .i64 0]) 2 16 Try.underlying99 hi hz0 hz1 hz2 rfl (by decide) _ _ _ rfl (HX1.out.alloc _) ⟨wr.heap.size, 0, none⟩ 1 1 (ints [(a : Int), (b : Int)]) rfl rfl (World.news_of_block (heap_alloc_new wr _)) (ints_oneCell _) (by unfold maxLen; omega) (by omega) (by simp; omega) ?_)
          intro v' w5 hown5 hgr5 _
          have HG5 := Lib.hid (rowN_snoc HR.out (l := [(a : Int), (b : Int)]) rfl hown5)
          rw [hnx.out] at HG5
          have HB5 := Lib.hid ((HBZ.out.alloc (by omega) _).grown hgr5 (by simp; omega) (fun i hi => (HX1.out.lt i hi).1))
          clear hown5 hgr5
          go_wp2
          go_roundw
          case rel => exact ⟨b + 1, by omega, by omega, by go_num, HG5, HB5.out⟩
          case measure => simp [intOf]; omega
        · obtain rfl : b = n := by omega
          have HZ := hgb
          rw [← pw_succ] at HZ
          clear hgb
          go_wp2
          go_roundw
          case rel => exact ⟨a + 1, by omega, by go_num, HZ, hblb⟩
          case measure => simp [intOf]; omega
    · obtain rfl : a = n := by omega
      go_wp2
      go_ret
      exact ⟨_, rfl, hga.out, hbla⟩
end Go.Proofs.Ytamnacgclhaggab
