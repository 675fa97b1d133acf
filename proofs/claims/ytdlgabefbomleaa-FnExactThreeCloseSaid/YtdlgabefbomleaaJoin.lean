/- The threes that follow from one three and the map: the program's row of them. -/
import Derived.Test.YtdlgabefbomleaaMap
import Derived.Test.YtdlgabefbomleaaClo
namespace Go.Proofs.Ytdlgabefbomleaa
open Go.ChangeShapes Go.WideShapes Go.ChangeAt Go.RowKit

theorem RowN.live {w : World} {B m : Nat} {t : TypeId} {v : Value} {M : List (List Int)} (h : RowN w B t m v M) (hne : v ≠ .slice none 0 0) : ∃ g c, v = .slice (some ⟨g, 0, none⟩) M.length c := by
  rcases h.2.2 with ⟨e, _⟩ | ⟨g, cap, cur, e, _⟩
  · exact absurd e hne
  · exact ⟨g, cap, e⟩
theorem joinX1 (K : List (List Int)) (a b c x : Int) (r1 r2 : Bool) (h1 : r1 = decide (x ≠ b ∧ [a, c, x] ∈ K)) (h2 : r2 = decide (x ≠ c ∧ [a, x, b] ∈ K)) :
    joinX K a b c x = (if r1 = true then [[a, b, x]] else []) ++ (if r2 = true then [[a, x, c]] else []) := by
  subst h1; subst h2; simp [joinX]

set_option maxRecDepth 10000 in
set_option maxHeartbeats 4000000 in
theorem joined_any (n mb : Nat) (K : List (List Int)) (a b c : Int) (w : World) (hn : n ≤ 7) (hm : MapK w mb K) (ha0 : 0 ≤ a) (ha : a < 8) (hb0 : 0 ≤ b) (hb : b < 8) (hc0 : 0 ≤ c) (hc : c < 8) :
    Calls Try.prog 113 #[.map (some mb), .int .i64 (n : Int), .agg (ints [a, b, c]).toArray] w fun e w' => ∃ g d, e = .returned (.slice (some ⟨g, 0, none⟩) (joinTo K a b c n).length d) ∧ RowN w' w.heap.size 52 3 (.slice (some ⟨g, 0, none⟩) (joinTo K a b c n).length d) (joinTo K a b c n) ∧ Below w.heap.size w w' := by
  obtain ⟨i0, hi, hz0, hz1, hz2⟩ := info_parts three_info
  obtain ⟨W1, hW1⟩ : ∃ W, W = w.alloc (.cells (ints [a, b, c]).toArray 52) := ⟨_, rfl⟩
  obtain ⟨W0, hW0⟩ : ∃ W, W = W1.alloc (.cells #[] 52) := ⟨_, rfl⟩
  have s1 : W1.heap.size = w.heap.size + 1 := by rw [hW1]; simp
  have ht0 : Hid (Tri W0 w.heap.size [a, b, c]) := by rw [hW0, hW1]; exact Lib.hid ((Blk.new w [a, b, c]).alloc _)
  have hm0 : Hid (MapK W0 mb K) := by rw [hW0, hW1]; exact Lib.hid ((hm.alloc _).alloc _)
  have hr0 : Hid (RowN W0 (w.heap.size + 1) 52 3 (.slice (some ⟨w.heap.size + 1, 0, none⟩) 0 0) (joinTo K a b c 0)) := by rw [hW0, ← s1]; exact Lib.hid (RowN.empty W1 (by omega))
  have hb0' : Below w.heap.size w W0 := by rw [hW0, hW1]; exact ((Below.refl _ _).alloc (Nat.le_refl _) _).alloc (by simp) _
  have hmb := hm.lt
  simp only [ints, List.map_cons, List.map_nil] at hW1
  change Calls Try.prog 113 #[.map (some mb), .int .i64 (n : Int), .agg #[.int .i64 a, .int .i64 b, .int .i64 c]] w _
  clear hm
  go_enter Try.func113, Try.ntmps113
  go_wp2
  rw [← hW1, ← hW0]
  clear hW0 hW1 s1
  generalize hB : w.heap.size = B at *
  have HB := Lib.hid hB
  clear hB
  go_loopw [7, 11] (fun v i wr => ∃ k : Nat, k ≤ n ∧ i = .int .i64 k ∧ Hid (RowN wr (B + 1) 52 3 v (joinTo K a b c k)) ∧ Hid (v ≠ .slice none 0 0) ∧ Hid (Tri wr B [a, b, c]) ∧ Hid (MapK wr mb K) ∧ Below B w wr) (fun _ i _ => n - (intOf i).toNat)
  case atStart => exact ⟨0, Nat.zero_le _, rfl, hr0, Lib.hid (by simp), ht0, hm0, hb0'⟩
  case round =>
    obtain ⟨k, hk, rfl, hrd, hne, htr, hmk, hbl⟩ := hrel
    clear hr0 ht0 hm0 hb0'
    have HBL := Lib.hid hbl
    have hBw : B ≤ wr.heap.size := by rw [← HB.out]; exact hbl.size
    clear hbl
    by_cases hlt : k < n
    · have hlen := joinTo_len K a b c k
      obtain ⟨r1, hr1⟩ : ∃ r : Bool, r = decide ((k : Int) ≠ b ∧ [a, c, (k : Int)] ∈ K) := ⟨_, rfl⟩
      obtain ⟨r2, hr2⟩ : ∃ r : Bool, r = decide ((k : Int) ≠ c ∧ [a, (k : Int), b] ∈ K) := ⟨_, rfl⟩
      have HJX := Lib.hid (joinX1 K a b c (k : Int) r1 r2 hr1 hr2)
      have HJ := Lib.hid (joinTo_succ K a b c k)
      have HL1 := Lib.hid (fun W (h : MapK W mb K) => h.look (t := [a, c, (k : Int)]) ⟨a, c, k, rfl, ha0, ha, hc0, hc, by omega, by omega⟩)
      have HL2 := Lib.hid (fun W (h : MapK W mb K) => h.look (t := [a, (k : Int), b]) ⟨a, k, b, rfl, ha0, ha, by omega, by omega, hb0, hb⟩)
      have HR1 := Lib.hid hr1
      have HR2 := Lib.hid hr2
      clear hr1 hr2
      obtain ⟨M, hM⟩ : ∃ M, M = joinTo K a b c k := ⟨_, rfl⟩
      rw [← hM] at hrd HJ hlen
      clear hM
      have c0 : wr.cell? ⟨B, 0, none⟩ = some (.int .i64 a) := htr.out.cell (i := 0) (by simp)
      have c1 : wr.cell? ⟨B, 1, none⟩ = some (.int .i64 b) := htr.out.cell (i := 1) (by simp)
      have c2 : wr.cell? ⟨B, 2, none⟩ = some (.int .i64 c) := htr.out.cell (i := 2) (by simp)
      by_cases hxb : (k : Int) = b
      · have hbb : ((k : Int) != b) = false := by simp; omega
        have HNO1 : Hid (¬ ((k : Int) ≠ b ∧ [a, c, (k : Int)] ∈ K)) := fun h => h.1 hxb
        clear hxb
        by_cases hxc : (k : Int) = c
        · have hbc : ((k : Int) != c) = false := by simp; omega
          have HC2 : Hid (r2 = false) := by rw [Hid, HR2.out]; simp [hxc]
          clear hxc
          have HST : Hid (M = joinTo K a b c (k + 1)) := by rw [Hid, HJ.out, HJX.out, show r1 = false from by rw [HR1.out]; simpa using HNO1.out, HC2.out]; simp
          have HRR := hrd
          rw [HST.out] at HRR
          go_wp2
          go_roundw
          case rel => exact ⟨k + 1, by omega, by go_num, HRR, hne, htr, hmk, HBL.out⟩
          case measure => simp [intOf]; omega
        · have hbc : ((k : Int) != c) = true := by simp; omega
          have hl2 := HL2.out wr hmk.out
          have HC2 : Hid (r2 = decide ([a, (k : Int), b] ∈ K)) := by rw [Hid, HR2.out]; simp [hxc]
          rw [← HC2.out] at hl2
          simp only [tv, ints, List.map_cons, List.map_nil] at hl2
          clear hxc
          cases hq2 : r2 with
          | false =>
            rw [hq2] at hl2
            have HC3 := Lib.hid hq2
            clear hq2 HC2
            have HST : Hid (M = joinTo K a b c (k + 1)) := by rw [Hid, HJ.out, HJX.out, show r1 = false from by rw [HR1.out]; simpa using HNO1.out, HC3.out]; simp
            have HRR := hrd
            rw [HST.out] at HRR
            go_wp2
            go_roundw
            case rel => exact ⟨k + 1, by omega, by go_num, HRR, hne, htr, hmk, HBL.out⟩
            case measure => simp [intOf]; omega
          | true =>
            rw [hq2] at hl2
            have HC3 := Lib.hid hq2
            clear hq2 HC2
            go_wp2_with (at_builtin; refine wpList_append_own _ rfl _ _ 61 rfl (B + 1) 52 i0 (.agg #[.int .i64 0, .int .i64 0, .int .i64 0]) 3 24 Try.underlying61 hi hz0 hz1 hz2 rfl (by decide) _ _ _ rfl (hrd.out.2.alloc _) ⟨wr.heap.size, 0, none⟩ 1 1 (ints [a, (k : Int), c]) rfl rfl (World.news_of_block (heap_alloc_new wr _)) (ints_oneCell _) (by unfold maxLen; omega) (by omega) (by simp; omega) ?_)
            intro v7 w7 hown7 hgr7 hnil7
            have HR7 := Lib.hid (hrd.out.snoc (l := [a, (k : Int), c]) rfl hown7)
            have HNE7 : Hid (v7 ≠ .slice none 0 0) := Lib.hid hnil7
            have HT7 := Lib.hid ((htr.out.alloc (.cells (ints [a, (k : Int), c]).toArray 52)).grown hgr7 (by intro e; have := (hrd.out.lt _ e.symm).1; omega))
            have HM7 := Lib.hid ((hmk.out.alloc (.cells (ints [a, (k : Int), c]).toArray 52)).grown hgr7 (by intro e; have := (hrd.out.lt _ e.symm).1; omega))
            have HB7 := Lib.hid ((HBL.out.alloc hBw _).grown hgr7 (by simp; omega) (fun i hi => by have := (hrd.out.lt i hi).1; omega))
            clear hown7 hgr7 hnil7
            have HST : Hid ((M ++ [[a, (k : Int), c]]) = joinTo K a b c (k + 1)) := by rw [Hid, HJ.out, HJX.out, show r1 = false from by rw [HR1.out]; simpa using HNO1.out, HC3.out]; simp
            have HRR := HR7
            rw [HST.out] at HRR
            go_wp2
            go_roundw
            case rel => exact ⟨k + 1, by omega, by go_num, HRR, HNE7, HT7, HM7, HB7.out⟩
            case measure => simp [intOf]; omega
      · have hbb : ((k : Int) != b) = true := by simp; omega
        have hl1 := HL1.out wr hmk.out
        have HC1 : Hid (r1 = decide ([a, c, (k : Int)] ∈ K)) := by rw [Hid, HR1.out]; simp [hxb]
        rw [← HC1.out] at hl1
        simp only [tv, ints, List.map_cons, List.map_nil] at hl1
        clear hxb
        cases hq1 : r1 with
        | false =>
          rw [hq1] at hl1
          have HNO1 : Hid (¬ ((k : Int) ≠ b ∧ [a, c, (k : Int)] ∈ K)) := by have := HR1.out; rw [hq1] at this; simpa [Hid] using this.symm
          clear hq1 HC1
          by_cases hxc : (k : Int) = c
          · have hbc : ((k : Int) != c) = false := by simp; omega
            have HC2 : Hid (r2 = false) := by rw [Hid, HR2.out]; simp [hxc]
            clear hxc
            have HST : Hid (M = joinTo K a b c (k + 1)) := by rw [Hid, HJ.out, HJX.out, show r1 = false from by rw [HR1.out]; simpa using HNO1.out, HC2.out]; simp
            have HRR := hrd
            rw [HST.out] at HRR
            go_wp2
            go_roundw
            case rel => exact ⟨k + 1, by omega, by go_num, HRR, hne, htr, hmk, HBL.out⟩
            case measure => simp [intOf]; omega
          · have hbc : ((k : Int) != c) = true := by simp; omega
            have hl2 := HL2.out wr hmk.out
            have HC2 : Hid (r2 = decide ([a, (k : Int), b] ∈ K)) := by rw [Hid, HR2.out]; simp [hxc]
            rw [← HC2.out] at hl2
            simp only [tv, ints, List.map_cons, List.map_nil] at hl2
            clear hxc
            cases hq2 : r2 with
            | false =>
              rw [hq2] at hl2
              have HC3 := Lib.hid hq2
              clear hq2 HC2
              have HST : Hid (M = joinTo K a b c (k + 1)) := by rw [Hid, HJ.out, HJX.out, show r1 = false from by rw [HR1.out]; simpa using HNO1.out, HC3.out]; simp
              have HRR := hrd
              rw [HST.out] at HRR
              go_wp2
              go_roundw
              case rel => exact ⟨k + 1, by omega, by go_num, HRR, hne, htr, hmk, HBL.out⟩
              case measure => simp [intOf]; omega
            | true =>
              rw [hq2] at hl2
              have HC3 := Lib.hid hq2
              clear hq2 HC2
              go_wp2_with (at_builtin; refine wpList_append_own _ rfl _ _ 61 rfl (B + 1) 52 i0 (.agg #[.int .i64 0, .int .i64 0, .int .i64 0]) 3 24 Try.underlying61 hi hz0 hz1 hz2 rfl (by decide) _ _ _ rfl (hrd.out.2.alloc _) ⟨wr.heap.size, 0, none⟩ 1 1 (ints [a, (k : Int), c]) rfl rfl (World.news_of_block (heap_alloc_new wr _)) (ints_oneCell _) (by unfold maxLen; omega) (by omega) (by simp; omega) ?_)
              intro v7 w7 hown7 hgr7 hnil7
              have HR7 := Lib.hid (hrd.out.snoc (l := [a, (k : Int), c]) rfl hown7)
              have HNE7 : Hid (v7 ≠ .slice none 0 0) := Lib.hid hnil7
              have HT7 := Lib.hid ((htr.out.alloc (.cells (ints [a, (k : Int), c]).toArray 52)).grown hgr7 (by intro e; have := (hrd.out.lt _ e.symm).1; omega))
              have HM7 := Lib.hid ((hmk.out.alloc (.cells (ints [a, (k : Int), c]).toArray 52)).grown hgr7 (by intro e; have := (hrd.out.lt _ e.symm).1; omega))
              have HB7 := Lib.hid ((HBL.out.alloc hBw _).grown hgr7 (by simp; omega) (fun i hi => by have := (hrd.out.lt i hi).1; omega))
              clear hown7 hgr7 hnil7
              have HST : Hid ((M ++ [[a, (k : Int), c]]) = joinTo K a b c (k + 1)) := by rw [Hid, HJ.out, HJX.out, show r1 = false from by rw [HR1.out]; simpa using HNO1.out, HC3.out]; simp
              have HRR := HR7
              rw [HST.out] at HRR
              go_wp2
              go_roundw
              case rel => exact ⟨k + 1, by omega, by go_num, HRR, HNE7, HT7, HM7, HB7.out⟩
              case measure => simp [intOf]; omega
        | true =>
          rw [hq1] at hl1
          have HIN1 : Hid ((k : Int) ≠ b ∧ [a, c, (k : Int)] ∈ K) := by have := HR1.out; rw [hq1] at this; simpa [Hid] using this.symm
          clear hq1 HC1
          go_wp2_with (at_builtin; refine wpList_append_own _ rfl _ _ 61 rfl (B + 1) 52 i0 (.agg #[.int .i64 0, .int .i64 0, .int .i64 0]) 3 24 Try.underlying61 hi hz0 hz1 hz2 rfl (by decide) _ _ _ rfl (hrd.out.2.alloc _) ⟨wr.heap.size, 0, none⟩ 1 1 (ints [a, b, (k : Int)]) rfl rfl (World.news_of_block (heap_alloc_new wr _)) (ints_oneCell _) (by unfold maxLen; omega) (by omega) (by simp; omega) ?_)
          intro v5 w5 hown5 hgr5 hnil5
          have HR5 := Lib.hid (hrd.out.snoc (l := [a, b, (k : Int)]) rfl hown5)
          have HNE5 : Hid (v5 ≠ .slice none 0 0) := Lib.hid hnil5
          have HT5 := Lib.hid ((htr.out.alloc (.cells (ints [a, b, (k : Int)]).toArray 52)).grown hgr5 (by intro e; have := (hrd.out.lt _ e.symm).1; omega))
          have HM5 := Lib.hid ((hmk.out.alloc (.cells (ints [a, b, (k : Int)]).toArray 52)).grown hgr5 (by intro e; have := (hrd.out.lt _ e.symm).1; omega))
          have HB5 := Lib.hid ((HBL.out.alloc hBw _).grown hgr5 (by simp; omega) (fun i hi => by have := (hrd.out.lt i hi).1; omega))
          have hBw5 : B ≤ w5.heap.size := by rw [← HB.out]; exact HB5.out.size
          obtain ⟨M5, hM5⟩ : ∃ M5, M5 = M ++ [[a, b, (k : Int)]] := ⟨_, rfl⟩
          have HME := Lib.hid hM5
          have hlen5 : M5.length ≤ 2 * k + 1 := by rw [hM5]; simp; omega
          rw [← hM5] at HR5
          clear hown5 hgr5 hnil5 c0 c1 c2 hM5
          have c0 : w5.cell? ⟨B, 0, none⟩ = some (.int .i64 a) := HT5.out.cell (i := 0) (by simp)
          have c1 : w5.cell? ⟨B, 1, none⟩ = some (.int .i64 b) := HT5.out.cell (i := 1) (by simp)
          have c2 : w5.cell? ⟨B, 2, none⟩ = some (.int .i64 c) := HT5.out.cell (i := 2) (by simp)
          by_cases hxc : (k : Int) = c
          · have hbc : ((k : Int) != c) = false := by simp; omega
            have HC2 : Hid (r2 = false) := by rw [Hid, HR2.out]; simp [hxc]
            clear hxc
            have HST : Hid (M5 = joinTo K a b c (k + 1)) := by rw [Hid, HJ.out, HJX.out, HME.out, show r1 = true from by rw [HR1.out]; simpa using HIN1.out, HC2.out]; simp
            have HRR := HR5
            rw [HST.out] at HRR
            go_wp2
            go_roundw
            case rel => exact ⟨k + 1, by omega, by go_num, HRR, HNE5, HT5, HM5, HB5.out⟩
            case measure => simp [intOf]; omega
          · have hbc : ((k : Int) != c) = true := by simp; omega
            have hl2 := HL2.out w5 HM5.out
            have HC2 : Hid (r2 = decide ([a, (k : Int), b] ∈ K)) := by rw [Hid, HR2.out]; simp [hxc]
            rw [← HC2.out] at hl2
            simp only [tv, ints, List.map_cons, List.map_nil] at hl2
            clear hxc
            cases hq2 : r2 with
            | false =>
              rw [hq2] at hl2
              have HC3 := Lib.hid hq2
              clear hq2 HC2
              have HST : Hid (M5 = joinTo K a b c (k + 1)) := by rw [Hid, HJ.out, HJX.out, HME.out, show r1 = true from by rw [HR1.out]; simpa using HIN1.out, HC3.out]; simp
              have HRR := HR5
              rw [HST.out] at HRR
              go_wp2
              go_roundw
              case rel => exact ⟨k + 1, by omega, by go_num, HRR, HNE5, HT5, HM5, HB5.out⟩
              case measure => simp [intOf]; omega
            | true =>
              rw [hq2] at hl2
              have HC3 := Lib.hid hq2
              clear hq2 HC2
              go_wp2_with (at_builtin; refine wpList_append_own _ rfl _ _ 61 rfl (B + 1) 52 i0 (.agg #[.int .i64 0, .int .i64 0, .int .i64 0]) 3 24 Try.underlying61 hi hz0 hz1 hz2 rfl (by decide) _ _ _ rfl (HR5.out.2.alloc _) ⟨w5.heap.size, 0, none⟩ 1 1 (ints [a, (k : Int), c]) rfl rfl (World.news_of_block (heap_alloc_new w5 _)) (ints_oneCell _) (by unfold maxLen; omega) (by omega) (by simp; omega) ?_)
              intro v7 w7 hown7 hgr7 hnil7
              have HR7 := Lib.hid (HR5.out.snoc (l := [a, (k : Int), c]) rfl hown7)
              have HNE7 : Hid (v7 ≠ .slice none 0 0) := Lib.hid hnil7
              have HT7 := Lib.hid ((HT5.out.alloc (.cells (ints [a, (k : Int), c]).toArray 52)).grown hgr7 (by intro e; have := (HR5.out.lt _ e.symm).1; omega))
              have HM7 := Lib.hid ((HM5.out.alloc (.cells (ints [a, (k : Int), c]).toArray 52)).grown hgr7 (by intro e; have := (HR5.out.lt _ e.symm).1; omega))
              have HB7 := Lib.hid ((HB5.out.alloc hBw5 _).grown hgr7 (by simp; omega) (fun i hi => by have := (HR5.out.lt i hi).1; omega))
              clear hown7 hgr7 hnil7
              have HST : Hid ((M5 ++ [[a, (k : Int), c]]) = joinTo K a b c (k + 1)) := by rw [Hid, HJ.out, HJX.out, HME.out, show r1 = true from by rw [HR1.out]; simpa using HIN1.out, HC3.out]; simp
              have HRR := HR7
              rw [HST.out] at HRR
              go_wp2
              go_roundw
              case rel => exact ⟨k + 1, by omega, by go_num, HRR, HNE7, HT7, HM7, HB7.out⟩
              case measure => simp [intOf]; omega
    · obtain rfl : k = n := by omega
      obtain ⟨g, d, e⟩ := hrd.out.live hne.out
      subst e
      go_wp2
      go_ret
      exact ⟨g, d, rfl, by rw [HB.out]; exact hrd.out.less (by omega), by rw [HB.out]; exact HBL.out⟩
end Go.Proofs.Ytdlgabefbomleaa
