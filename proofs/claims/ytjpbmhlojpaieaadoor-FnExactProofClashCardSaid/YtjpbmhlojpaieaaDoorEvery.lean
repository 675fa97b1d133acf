/- All threes of n points in order: the model's list, the program's row. -/
import Derived.Test.YtjpbmhlojpaieaaDoorGrow
namespace Go.Proofs.YtjpbmhlojpaieaaDoor
open Go.ChangeShapes Go.WideShapes Go.ChangeAt Go.RowKit

def pick3 (x y z : Nat) : List (List Int) := if x ≠ y ∧ x ≠ z ∧ y ≠ z then [[(x : Int), (y : Int), (z : Int)]] else []
def ez (x y k : Nat) : List (List Int) := (List.range k).flatMap fun z => pick3 x y z
def ey (n x k : Nat) : List (List Int) := (List.range k).flatMap fun y => ez x y n
def ex (n k : Nat) : List (List Int) := (List.range k).flatMap fun x => ey n x n
def everyL (n : Nat) : List (List Int) := ex n n
theorem ez_succ (x y k : Nat) : ez x y (k + 1) = ez x y k ++ pick3 x y k := by simp [ez, List.range_succ]
theorem ey_succ (n x k : Nat) : ey n x (k + 1) = ey n x k ++ ez x k n := by simp [ey, List.range_succ]
theorem ex_succ (n k : Nat) : ex n (k + 1) = ex n k ++ ey n k n := by simp [ex, List.range_succ]
theorem pick3_len (x y z : Nat) : (pick3 x y z).length ≤ 1 := by unfold pick3; split <;> simp
theorem ez_len (x y : Nat) : ∀ k, (ez x y k).length ≤ k
  | 0 => by simp [ez]
  | k + 1 => by rw [ez_succ, List.length_append]; have := ez_len x y k; have := pick3_len x y k; omega
theorem ey_len (n x : Nat) (hn : n ≤ 7) : ∀ k, (ey n x k).length ≤ 7 * k
  | 0 => by simp [ey]
  | k + 1 => by rw [ey_succ, List.length_append]; have := ey_len n x hn k; have := ez_len x k n; omega
theorem ex_len (n : Nat) (hn : n ≤ 7) : ∀ k, (ex n k).length ≤ 49 * k
  | 0 => by simp [ex]
  | k + 1 => by rw [ex_succ, List.length_append]; have := ex_len n hn k; have := ey_len n k hn n; omega
theorem everyL_len (n : Nat) (hn : n ≤ 7) : (everyL n).length ≤ 343 := by have := ex_len n hn n; unfold everyL; omega
theorem mem_every (n : Nat) (l : List Int) : l ∈ everyL n ↔ ∃ x y z : Nat, x < n ∧ y < n ∧ z < n ∧ x ≠ y ∧ x ≠ z ∧ y ≠ z ∧ l = [(x : Int), (y : Int), (z : Int)] := by
  simp only [everyL, ex, ey, ez, pick3, List.mem_flatMap, List.mem_range]
  constructor
  · rintro ⟨x, hx, y, hy, z, hz, h⟩
    split at h
    · rename_i hd
      exact ⟨x, y, z, hx, hy, hz, hd.1, hd.2.1, hd.2.2, by simpa using h⟩
    · simp at h
  · rintro ⟨x, y, z, hx, hy, hz, h1, h2, h3, rfl⟩
    exact ⟨x, hx, y, hy, z, hz, by rw [if_pos ⟨h1, h2, h3⟩]; simp⟩
theorem every_thr (n : Nat) (l : List Int) : l ∈ everyL n ↔ Thr (n : Int) l := by
  rw [mem_every]
  constructor
  · rintro ⟨x, y, z, hx, hy, hz, h1, h2, h3, rfl⟩
    rw [thr3]
    refine ⟨by omega, by omega, by omega, ?_, ?_, ?_⟩ <;> omega
  · intro h
    obtain ⟨x, y, z, rfl⟩ := of_three h.1
    rw [thr3] at h
    obtain ⟨hx, hy, hz, h1, h2, h3⟩ := h
    refine ⟨x.toNat, y.toNat, z.toNat, by omega, by omega, by omega, by omega, by omega, by omega, ?_⟩
    rw [Int.toNat_of_nonneg hx.1, Int.toNat_of_nonneg hy.1, Int.toNat_of_nonneg hz.1]
theorem every_row3 (n : Nat) : ∀ l ∈ everyL n, l.length = 3 := fun l hl => ((every_thr n l).1 hl).1
theorem pick3_row (x y z : Nat) : ∀ l ∈ pick3 x y z, l.length = 3 := fun l hl => by
  unfold pick3 at hl
  split at hl
  · simp at hl; rw [hl]; rfl
  · simp at hl
theorem pick3_yes {x y z : Nat} (h1 : x ≠ y) (h2 : x ≠ z) (h3 : y ≠ z) : pick3 x y z = [[(x : Int), (y : Int), (z : Int)]] := if_pos ⟨h1, h2, h3⟩
theorem pick3_no {x y z : Nat} (h : ¬ (x ≠ y ∧ x ≠ z ∧ y ≠ z)) : pick3 x y z = [] := if_neg h

theorem RowN.snoc {w w' : World} {B m : Nat} {t : TypeId} {v v' : Value} {M : List (List Int)} {l : List Int} (h : RowN w B t m v M) (hl : l.length = m) (ho : w'.ownsRow B t m v' (M.length + 1) (ints M.flatten ++ ints l)) : RowN w' B t m v' (M ++ [l]) := by
  refine ⟨fun r hr => ?_, ?_⟩
  · rcases List.mem_append.1 hr with h1 | h1
    · exact h.1 r h1
    · rw [List.mem_singleton.1 h1, hl]
  · rw [List.length_append, List.flatten_append, ints, List.map_append]
    simpa [ints] using ho
theorem RowN.empty (w : World) {B m : Nat} {t : TypeId} (hB : B ≤ w.heap.size) : RowN (w.alloc (.cells #[] t)) B t m (.slice (some ⟨w.heap.size, 0, none⟩) 0 0) [] :=
  ⟨by simp, by simp [ints], .inr ⟨w.heap.size, 0, #[], rfl, hB, heap_alloc_new w _, Nat.le_refl _, by decide, by simp, by simp [ints]⟩⟩

set_option maxRecDepth 10000 in
set_option maxHeartbeats 2000000 in
theorem l2Every_any (n : Nat) (w : World) (hn : n ≤ 7) :
    Calls Tryd.prog 35 #[.int .i64 (n : Int)] w fun e w' => ∃ v, e = .returned v ∧ GrowS w' w.heap.size v (everyL n) ∧ Below w.heap.size w w' := by
  obtain ⟨i0, hi, hz0, hz1, hz2⟩ := info_parts row_info
  have hg0 : Hid (GrowS (w.alloc (.cells #[] 22)) w.heap.size (.slice (some ⟨w.heap.size, 0, none⟩) 0 0) []) := GrowS.empty w (Nat.le_refl _)
  have hb0 : Below w.heap.size w (w.alloc (.cells #[] 22)) := (Below.refl _ _).alloc (Nat.le_refl _) _
  go_enter Tryd.func35, Tryd.ntmps35
  go_wp2
  generalize (w.alloc (.cells #[] 22)) = W0 at *
  go_loopw [3, 4] (fun v i wr => ∃ x : Nat, x ≤ n ∧ i = .int .i64 x ∧ Hid (GrowS wr w.heap.size v (ex n x)) ∧ Below w.heap.size w wr) (fun _ i _ => n - (intOf i).toNat)
  case atStart => exact ⟨0, Nat.zero_le _, rfl, by simpa [ex, Hid] using hg0, hb0⟩
  case round =>
    obtain ⟨x, hx, rfl, hgx, hblx⟩ := hrel
    clear hg0 hb0
    by_cases hltx : x < n
    · go_wp2
      go_loopw [3, 5] (fun v i wr => ∃ y : Nat, y ≤ n ∧ i = .int .i64 y ∧ Hid (GrowS wr w.heap.size v (ex n x ++ ey n x y)) ∧ Below w.heap.size w wr) (fun _ i _ => n - (intOf i).toNat)
      case atStart => exact ⟨0, Nat.zero_le _, by go_num, by simpa [ey, Hid] using hgx, hblx⟩
      case round =>
        obtain ⟨y, hy, rfl, hgy, hbly⟩ := hrel
        clear hgx hblx
        by_cases hlty : y < n
        · go_wp2
          go_loopw [3, 6] (fun v i wr => ∃ z : Nat, z ≤ n ∧ i = .int .i64 z ∧ Hid (GrowS wr w.heap.size v (ex n x ++ ey n x y ++ ez x y z)) ∧ Below w.heap.size w wr) (fun _ i _ => n - (intOf i).toNat)
          case atStart => exact ⟨0, Nat.zero_le _, by go_num, by simpa [ez, Hid] using hgy, hbly⟩
          case round =>
            obtain ⟨z, hz, rfl, hgz, hblz⟩ := hrel
            clear hgy hbly
            by_cases hltz : z < n
            · have hnx : Hid (ex n x ++ ey n x y ++ ez x y z ++ pick3 x y z = ex n x ++ ey n x y ++ ez x y (z + 1)) := by rw [Hid, ez_succ]; simp only [List.append_assoc]
              have HML : Hid ((ex n x ++ ey n x y ++ ez x y z).length ≤ 700) := by
                have h1 := ex_len n hn x
                have h2 := ey_len n x hn y
                have h3 := ez_len x y z
                simp only [Hid, List.length_append]; omega
              obtain ⟨M, hM⟩ : ∃ M, M = ex n x ++ ey n x y ++ ez x y z := ⟨_, rfl⟩
              rw [← hM] at hgz hnx HML
              have HM := Lib.hid hM
              clear hM
              by_cases d0 : x = y
              · have hp : Hid (pick3 x y z = []) := pick3_no (by omega)
                have e0 : ((x : Int) != (y : Int)) = false := by simp; omega
                rw [hp.out, List.append_nil] at hnx
                have HZ := Lib.hid (hnx.out ▸ hgz.out)
                clear d0
                go_wp2
                go_roundw
                case rel => exact ⟨z + 1, by omega, by go_num, HZ, hblz⟩
                case measure => simp [intOf]; omega
              have e0 : ((x : Int) != (y : Int)) = true := by simp; omega
              by_cases d1 : x = z
              · have hp : Hid (pick3 x y z = []) := pick3_no (by omega)
                have e1 : ((x : Int) != (z : Int)) = false := by simp; omega
                rw [hp.out, List.append_nil] at hnx
                have HZ := Lib.hid (hnx.out ▸ hgz.out)
                clear d0 d1
                go_wp2
                go_roundw
                case rel => exact ⟨z + 1, by omega, by go_num, HZ, hblz⟩
                case measure => simp [intOf]; omega
              have e1 : ((x : Int) != (z : Int)) = true := by simp; omega
              by_cases d2 : y = z
              · have hp : Hid (pick3 x y z = []) := pick3_no (by omega)
                have e2 : ((y : Int) != (z : Int)) = false := by simp; omega
                rw [hp.out, List.append_nil] at hnx
                have HZ := Lib.hid (hnx.out ▸ hgz.out)
                clear d0 d1 d2
                go_wp2
                go_roundw
                case rel => exact ⟨z + 1, by omega, by go_num, HZ, hblz⟩
                case measure => simp [intOf]; omega
              have e2 : ((y : Int) != (z : Int)) = true := by simp; omega
              have hp : Hid (pick3 x y z = [[(x : Int), (y : Int), (z : Int)]]) := pick3_yes (by omega) (by omega) (by omega)
              rw [hp.out] at hnx
              have hBs : w.heap.size ≤ wr.heap.size := hblz.size
              have HBZ := Lib.hid hblz
              obtain ⟨xs, hx1, hx2⟩ := hgz.out
              have HX1 := Lib.hid hx1
              have HX2 := Lib.hid hx2
              have hkl : M.length ≤ 700 := HML.out
              clear hx1 hx2 d0 d1 d2 hgz hblz
              go_wp2_with (at_builtin; refine wpList_append_own _ rfl _ _ 28 rfl w.heap.size 22 i0 (.slice none 0 0) 1 24 Tryd.underlying28 hi hz0 hz1 hz2 rfl (by decide) _ _ _ rfl ((HX1.out.alloc _).alloc _) ⟨wr.heap.size + 1, 0, none⟩ 1 1 [.slice (some ⟨wr.heap.size, 0, none⟩) 3 3] rfl rfl (one_cell2 wr _ _ _) (by simp [Value.oneCell']) (by unfold maxLen; omega) (by omega) (by simp; omega) ?_)
              intro v' w5 hown5 hgr5 _
              have HG5 := Lib.hid (grow_lit rfl HX1.out HX2.out hBs [(x : Int), (y : Int), (z : Int)] (by simp) _ hown5 hgr5)
              rw [hnx.out] at HG5
              have HB5 := Lib.hid (((HBZ.out.alloc (by omega) _).alloc (by simp; omega) _).grown hgr5 (by simp; omega) (fun i hi => (HX1.out.lt i hi).1))
              clear hown5 hgr5
              go_wp2
              go_roundw
              case rel => exact ⟨z + 1, by omega, by go_num, HG5, HB5.out⟩
              case measure => simp [intOf]; omega
            · obtain rfl : z = n := by omega
              have HZ := hgz
              rw [List.append_assoc, ← ey_succ] at HZ
              clear hgz
              go_wp2
              go_roundw
              case rel => exact ⟨y + 1, by omega, by go_num, HZ, hblz⟩
              case measure => simp [intOf]; omega
        · obtain rfl : y = n := by omega
          have HZ := hgy
          rw [← ex_succ] at HZ
          clear hgy
          go_wp2
          go_roundw
          case rel => exact ⟨x + 1, by omega, by go_num, HZ, hbly⟩
          case measure => simp [intOf]; omega
    · obtain rfl : x = n := by omega
      go_wp2
      go_ret
      exact ⟨_, rfl, hgx.out, hblx⟩

set_option maxRecDepth 10000 in
set_option maxHeartbeats 2000000 in
theorem allThrees_any (n : Nat) (w : World) (hn : n ≤ 7) :
    Calls Tryd.prog 89 #[.int .i64 (n : Int)] w fun e w' => ∃ v, e = .returned v ∧ RowN w' w.heap.size 69 3 v (everyL n) ∧ Below w.heap.size w w' := by
  obtain ⟨i0, hi, hz0, hz1, hz2⟩ := info_parts three_info
  have hg0 : Hid (RowN (w.alloc (.cells #[] 69)) w.heap.size 69 3 (.slice (some ⟨w.heap.size, 0, none⟩) 0 0) []) := RowN.empty w (Nat.le_refl _)
  have hb0 : Below w.heap.size w (w.alloc (.cells #[] 69)) := (Below.refl _ _).alloc (Nat.le_refl _) _
  go_enter Tryd.func89, Tryd.ntmps89
  go_wp2
  generalize (w.alloc (.cells #[] 69)) = W0 at *
  go_loopw [3, 9] (fun v i wr => ∃ x : Nat, x ≤ n ∧ i = .int .i64 x ∧ Hid (RowN wr w.heap.size 69 3 v (ex n x)) ∧ Below w.heap.size w wr) (fun _ i _ => n - (intOf i).toNat)
  case atStart => exact ⟨0, Nat.zero_le _, rfl, by simpa [ex, Hid] using hg0, hb0⟩
  case round =>
    obtain ⟨x, hx, rfl, hgx, hblx⟩ := hrel
    clear hg0 hb0
    by_cases hltx : x < n
    · go_wp2
      go_loopw [3, 13] (fun v i wr => ∃ y : Nat, y ≤ n ∧ i = .int .i64 y ∧ Hid (RowN wr w.heap.size 69 3 v (ex n x ++ ey n x y)) ∧ Below w.heap.size w wr) (fun _ i _ => n - (intOf i).toNat)
      case atStart => exact ⟨0, Nat.zero_le _, by go_num, by simpa [ey, Hid] using hgx, hblx⟩
      case round =>
        obtain ⟨y, hy, rfl, hgy, hbly⟩ := hrel
        clear hgx hblx
        by_cases hlty : y < n
        · go_wp2
          go_loopw [3, 17] (fun v i wr => ∃ z : Nat, z ≤ n ∧ i = .int .i64 z ∧ Hid (RowN wr w.heap.size 69 3 v (ex n x ++ ey n x y ++ ez x y z)) ∧ Below w.heap.size w wr) (fun _ i _ => n - (intOf i).toNat)
          case atStart => exact ⟨0, Nat.zero_le _, by go_num, by simpa [ez, Hid] using hgy, hbly⟩
          case round =>
            obtain ⟨z, hz, rfl, hgz, hblz⟩ := hrel
            clear hgy hbly
            by_cases hltz : z < n
            · have hnx : Hid (ex n x ++ ey n x y ++ ez x y z ++ pick3 x y z = ex n x ++ ey n x y ++ ez x y (z + 1)) := by rw [Hid, ez_succ]; simp only [List.append_assoc]
              have HML : Hid ((ex n x ++ ey n x y ++ ez x y z).length ≤ 700) := by
                have h1 := ex_len n hn x
                have h2 := ey_len n x hn y
                have h3 := ez_len x y z
                simp only [Hid, List.length_append]; omega
              obtain ⟨M, hM⟩ : ∃ M, M = ex n x ++ ey n x y ++ ez x y z := ⟨_, rfl⟩
              rw [← hM] at hgz hnx HML
              have HM := Lib.hid hM
              clear hM
              by_cases d0 : x = y
              · have hp : Hid (pick3 x y z = []) := pick3_no (by omega)
                have e0 : ((x : Int) != (y : Int)) = false := by simp; omega
                rw [hp.out, List.append_nil] at hnx
                have HZ := Lib.hid (hnx.out ▸ hgz.out)
                clear d0
                go_wp2
                go_roundw
                case rel => exact ⟨z + 1, by omega, by go_num, HZ, hblz⟩
                case measure => simp [intOf]; omega
              have e0 : ((x : Int) != (y : Int)) = true := by simp; omega
              by_cases d1 : y = z
              · have hp : Hid (pick3 x y z = []) := pick3_no (by omega)
                have e1 : ((y : Int) != (z : Int)) = false := by simp; omega
                rw [hp.out, List.append_nil] at hnx
                have HZ := Lib.hid (hnx.out ▸ hgz.out)
                clear d0 d1
                go_wp2
                go_roundw
                case rel => exact ⟨z + 1, by omega, by go_num, HZ, hblz⟩
                case measure => simp [intOf]; omega
              have e1 : ((y : Int) != (z : Int)) = true := by simp; omega
              by_cases d2 : z = x
              · have hp : Hid (pick3 x y z = []) := pick3_no (by omega)
                have e2 : ((z : Int) != (x : Int)) = false := by simp; omega
                rw [hp.out, List.append_nil] at hnx
                have HZ := Lib.hid (hnx.out ▸ hgz.out)
                clear d0 d1 d2
                go_wp2
                go_roundw
                case rel => exact ⟨z + 1, by omega, by go_num, HZ, hblz⟩
                case measure => simp [intOf]; omega
              have e2 : ((z : Int) != (x : Int)) = true := by simp; omega
              have hp : Hid (pick3 x y z = [[(x : Int), (y : Int), (z : Int)]]) := pick3_yes (by omega) (by omega) (by omega)
              rw [hp.out] at hnx
              have hBs : w.heap.size ≤ wr.heap.size := hblz.size
              have HBZ := Lib.hid hblz
              have HX1 := Lib.hid hgz.out.2
              have HR := Lib.hid hgz.out
              have hkl : M.length ≤ 700 := HML.out
              clear d0 d1 d2 hgz hblz
              go_wp2_with (at_builtin; refine wpList_append_own _ rfl _ _ 62 rfl w.heap.size 69 i0 (.agg #[.int .i64 0, .int .i64 0, .int .i64 0]) 3 24 Tryd.underlying62 hi hz0 hz1 hz2 rfl (by decide) _ _ _ rfl (HX1.out.alloc _) ⟨wr.heap.size, 0, none⟩ 1 1 (ints [(x : Int), (y : Int), (z : Int)]) rfl rfl (World.news_of_block (heap_alloc_new wr _)) (ints_oneCell _) (by unfold maxLen; omega) (by omega) (by simp; omega) ?_)
              intro v' w5 hown5 hgr5 _
              have HG5 := Lib.hid (HR.out.snoc (l := [(x : Int), (y : Int), (z : Int)]) rfl hown5)
              rw [hnx.out] at HG5
              have HB5 := Lib.hid ((HBZ.out.alloc (by omega) _).grown hgr5 (by simp; omega) (fun i hi => (HX1.out.lt i hi).1))
              clear hown5 hgr5
              go_wp2
              go_roundw
              case rel => exact ⟨z + 1, by omega, by go_num, HG5, HB5.out⟩
              case measure => simp [intOf]; omega
            · obtain rfl : z = n := by omega
              have HZ := hgz
              rw [List.append_assoc, ← ey_succ] at HZ
              clear hgz
              go_wp2
              go_roundw
              case rel => exact ⟨y + 1, by omega, by go_num, HZ, hblz⟩
              case measure => simp [intOf]; omega
        · obtain rfl : y = n := by omega
          have HZ := hgy
          rw [← ex_succ] at HZ
          clear hgy
          go_wp2
          go_roundw
          case rel => exact ⟨x + 1, by omega, by go_num, HZ, hbly⟩
          case measure => simp [intOf]; omega
    · obtain rfl : x = n := by omega
      go_wp2
      go_ret
      exact ⟨_, rfl, hgx.out, hblx⟩

end Go.Proofs.YtjpbmhlojpaieaaDoor
