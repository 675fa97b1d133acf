/- The program's reading of a list of lists, each one a parting. -/
import Derived.Test.YtamnacgclhaggaaPE
import Derived.Test.YtamnacgclhaggaaPar
import Derived.StillTailTactics
namespace Go.Proofs.Ytamnacgclhaggaa
open Go.ChangeShapes Go.WideShapes Go.ChangeAt Go.RowKit

theorem made_four (n : Nat) : (madeCells #[Value.int .i64 0, Value.int .i64 0, Value.int .i64 0, Value.int .i64 0] (n * 4)).toList = ints (List.replicate n [0, 0, 0, 0]).flatten := by
  rw [made_cells _ (.int .i64 0) (by decide) (fun i hi => by
    simp only [List.size_toArray, List.length_cons, List.length_nil] at hi
    obtain rfl | rfl | rfl | rfl : i = 0 ∨ i = 1 ∨ i = 2 ∨ i = 3 := by omega
    all_goals rfl)]
  rw [show ([0, 0, 0, 0] : List Int) = List.replicate 4 0 from rfl, List.flatten_replicate_replicate, ints, List.map_replicate]

set_option maxRecDepth 10000 in
set_option maxHeartbeats 1000000 in
theorem each_four (A : Option Addr) (m c H : Nat) (L : List (List Int)) (n : Int) (w : World) (h : RdS w H A m L) (hH : H ≤ w.heap.size) (hm : m ≤ 100) :
    Calls Try.prog 110 #[.int .i64 n, .slice A m c, .func (.func 61) #[] #[]] w fun e w' => ∃ v, e = .returned (.tuple #[v, .bool (allB (four n) L)]) ∧ RowN w' w.heap.size 79 4 v (allL (four n) L) ∧ Below w.heap.size w w' := by
  obtain ⟨i0, hi, hz0, hz1, hz2⟩ := info_parts readParting_info
  have HL := Lib.hid h.len
  go_enter Try.func110, Try.ntmps110
  go_wp2_with (at_make; refine wpList_make_full _ rfl _ _ 121 rfl w.heap.size 79 i0 (.agg #[.int .i64 0, .int .i64 0, .int .i64 0, .int .i64 0]) 4 Try.underlying121 hi hz0 hz1 .i64 .i64 _ _ m rfl rfl rfl rfl (by rw [hz2]; omega) (by unfold maxLen; omega) (Nat.le_refl _) ?_)
  intro w1 hown hgrow
  have hb1 : Below w.heap.size w w1 := (Below.refl _ _).grown hgrow (Nat.le_refl _) (by simp)
  have hf1 : Hid (RowN w1 w.heap.size 79 4 (.slice (some ⟨w.heap.size, 0, none⟩) m m) (mixZ [0, 0, 0, 0] L m 0)) := by
    rw [made_four] at hown
    refine ⟨?_, ?_⟩
    · intro l hl
      simp [mixZ] at hl
      rw [hl.2]; rfl
    · rw [mixZ_length [0, 0, 0, 0] L m 0 HL.out (by omega)]
      simpa [mixZ] using hown
  have hr1 := Lib.hid (h.below (hb1.mono hH))
  clear hown hgrow h
  generalize hB : w.heap.size = B at *
  have HB := Lib.hid hB
  clear hB
  have hBs : B ≤ w1.heap.size := by rw [← HB.out]; exact hb1.size
  go_wp2
  go_loopw [18] (fun i wr => ∃ k : Nat, k ≤ m ∧ i = .int .i64 k ∧ Hid (RowN wr B 79 4 (.slice (some ⟨B, 0, none⟩) m m) (mixZ [0, 0, 0, 0] L m k)) ∧ Hid (AllTo (four n) L k) ∧ Hid (RdS wr H A m L) ∧ Below B w wr) (fun i _ => m - (intOf i).toNat)
  case atStart => exact ⟨0, Nat.zero_le _, rfl, hf1, fun j hj => absurd hj (by omega), hr1, hb1⟩
  case round =>
    obtain ⟨k, hk, rfl, hf, hto, hrd, hbl⟩ := hrel
    clear hf1 hr1 hb1
    have HBL := Lib.hid hbl
    have hBw : B < wr.heap.size := (hf.out.lt _ rfl).2
    clear hbl
    by_cases hlt : k < m
    · obtain ⟨b, o, rfl, hbB, hcs⟩ := hrd.out.at_ (by omega)
      obtain ⟨Ak, ck, hc, hr, hz, hcm⟩ := hcs k hlt
      have HC := Lib.hid (readParting_any Ak _ ck H (rowK L k) n wr hr (by omega) hz hcm)
      have HS := Lib.hid (all_no (q := four n) (L := L) (k := k) (by rw [HL.out]; exact hlt))
      have HT := Lib.hid (allTo_step hto.out)
      have HM := Lib.hid (mixZ_step [0, 0, 0, 0] L m k HL.out hlt)
      have HML := Lib.hid (mixZ_length [0, 0, 0, 0] L m k HL.out hk)
      have HYES := Lib.hid (fun (ht : four n (rowK L k) = true) => (four_yes (n := n) (l := rowK L k) (by simpa [four] using ht)).2)
      have HLEN := Lib.hid (fourL_length n (rowK L k))
      clear hcs hr hz hcm
      generalize (rowK L k).length = z at *
      cases ht : four n (rowK L k)
      · have T1 := Lib.hid (HS.out ht)
        rw [ht] at HC
        generalize fourL n (rowK L k) = l at *
        clear HT HS ht HYES
        go_wp2_with fail
        refine HC.out.mono ?_
        rintro e w2 ⟨rfl, hb2⟩
        have HBL2 := Lib.hid (HBL.out.trans (hb2.mono (by omega)))
        have hs2 := hb2.size
        have HA := Lib.hid (heap_alloc_new w2 _ : Blk 79 (w2.alloc (.cells #[.int .i64 0, .int .i64 0, .int .i64 0, .int .i64 0] 79)) w2.heap.size [0, 0, 0, 0])
        clear hb2
        go_wp2_with (refine store_blk rfl 79 4 readParting_size _ _ rfl w2.heap.size [0, 0, 0, 0] l rfl HLEN.out rfl rfl HA ?_; intro w6 HB6 hg6 hs6)
        go_ret2
        refine ⟨_, by rw [T1.out.1]; rfl, ?_, ?_⟩
        · rw [T1.out.2]; exact ⟨by simp, World.ownsRow_nil _ _ _ _⟩
        · rw [HB.out]; exact (HBL2.out.alloc (by omega) _).grown hg6 (by simp; omega) (by simp; omega)
      · have T1 := Lib.hid (HT.out ht)
        rw [HYES.out ht] at HLEN
        rw [HYES.out ht, ht] at HC
        clear HT HS ht HYES
        generalize rowK L k = l at *
        go_wp2_with fail
        refine HC.out.mono ?_
        rintro e w2 ⟨rfl, hb2⟩
        have HBL2 := Lib.hid (HBL.out.trans (hb2.mono (by omega)))
        have HF2 := Lib.hid (hf.out.below hb2 (fun i hi => (hf.out.lt i hi).2))
        have HR2 := Lib.hid (hrd.out.below (hb2.mono (by omega)))
        have hs2 := hb2.size
        have HA := Lib.hid (heap_alloc_new w2 _ : Blk 79 (w2.alloc (.cells #[.int .i64 0, .int .i64 0, .int .i64 0, .int .i64 0] 79)) w2.heap.size [0, 0, 0, 0])
        clear hb2
        go_wp2_with (first
          | (refine store_blk rfl 79 4 readParting_size _ _ rfl w2.heap.size [0, 0, 0, 0] l rfl HLEN.out rfl rfl HA ?_; intro w6 HB6 hg6 hs6)
          | (refine load_blk rfl 79 4 readParting_size _ rfl Try.underlying79 _ rfl w2.heap.size l HLEN.out rfl HB6 ?_)
          | (refine store_elem rfl _ _ 79 rfl B m m B k 4 (mixZ [0, 0, 0, 0] L m k) l ?h1 (by rw [HML.out]; exact hlt) HLEN.out readParting_size rfl rfl ?h2; case h1 => exact Lib.hid ((HF2.out.alloc _).grown hg6 (by intro i hi; simp [Value.ownBlock] at hi; simp; omega))))
        intro w7 HF7 hg7
        rw [HM.out] at HF7
        have HB7 := Lib.hid (((HBL2.out.alloc (by omega) _).grown hg6 (by simp; omega) (by simp; omega)).grown hg7 (by rw [hs6]; simp; omega) (by simp))
        have HR7 := Lib.hid (((HR2.out.below ((Below.refl H _).alloc (by omega) _)).below ((Below.refl H _).grown hg6 (by simp; omega) (by simp; omega))).below ((Below.refl H _).grown hg7 (by rw [hs6]; simp; omega) (by simp; omega)))
        go_wp2
        go_roundw
        case rel => exact ⟨k + 1, by omega, by go_num, HF7, T1, HR7, HB7.out⟩
        case measure => simp [intOf]; omega
    · obtain rfl : k = m := by omega
      have hto' := hto.out
      rw [← HL.out] at hto'
      have T1 := Lib.hid (all_yes (allTo_all hto'))
      clear hto'
      go_wp2
      go_ret2
      refine ⟨_, by rw [T1.out.1]; rfl, ?_, by rw [HB.out]; exact HBL.out⟩
      rw [T1.out.2, HB.out]
      have := hf.out
      rwa [mixZ_full [0, 0, 0, 0] L k HL.out] at this
end Go.Proofs.Ytamnacgclhaggaa
