/- ThreeMost and ThreeMostRing of the model and of the program. -/
import Derived.Test.YtamnacgclhaggaaMostI
namespace Go.Proofs.Ytamnacgclhaggaa
open Go.ChangeShapes Go.WideShapes Go.ChangeAt Go.RowKit

set_option maxRecDepth 10000 in
set_option maxHeartbeats 1000000 in
theorem mostA_any (n : Nat) (v : Value) (C : Nat) (L : List (List Int)) (w : World) (h : RowN w C 63 3 v L) (h3 : 3 ≤ n) (h6 : n ≤ 6) (hm : L.length ≤ 1000) (hT : ∀ t ∈ L, Thr (n : Int) t) :
    Calls Try.prog 52 #[.int .i64 (n : Int), v] w fun e w' => e = .returned (agp (mostL n L)) ∧ Below w.heap.size w w' := by
  obtain ⟨A, c, rfl⟩ := h.slice
  have HT := Lib.hid hT
  have HM := Lib.hid hm
  obtain ⟨W0, hW0⟩ : ∃ W, W = w.alloc (.cells #[.slice A L.length c] 57) := ⟨_, rfl⟩
  obtain ⟨W, hW⟩ : ∃ W, W = W0.alloc (.cells #[.int .i64 0, .int .i64 0, .int .i64 0, .int .i64 0, .int .i64 0, .int .i64 0, .int .i64 0] 53) := ⟨_, rfl⟩
  have s0 : W0.heap.size = w.heap.size + 1 := by rw [hW0]; simp
  have kb : Below w.heap.size w W := by rw [hW, hW0]; exact ((Below.refl _ _).alloc (Nat.le_refl _) _).alloc (by simp) _
  have k2 : W.heap.size = w.heap.size + 2 := by rw [hW]; simp [s0]
  have k3 : W.cell? ⟨w.heap.size, 0, none⟩ = some (.slice A L.length c) := by rw [hW, hW0]; simp
  have k4 := Lib.hid (h.below kb (fun i hi => (h.lt i hi).2))
  have ka : Hid (Arr W (w.heap.size + 1) zero7) := by rw [hW, ← s0]; exact new_ring W0
  have HLT := Lib.hid (fun i hi => (h.lt i hi).2)
  have HK3 := Lib.hid k3
  have HB := Lib.hid kb
  have HIS := Lib.hid (most_is n L h3 h6).1
  have H7 := Lib.hid (padR_length (mostL n L) (by rw [HIS.out.1]; omega))
  have hBW : w.heap.size + 1 < W.heap.size := by omega
  clear h hT hm kb k3 s0 k2
  go_enter Try.func52, Try.ntmps52
  go_wp2_with fail
  rw [← hW0, ← hW]
  clear hW hW0
  generalize hBB : w.heap.size = B at *
  have HBB := Lib.hid hBB
  clear hBB
  refine (allRings_any n W h3 h6).mono ?_
  rintro e w1 ⟨v1, rfl, hr1, hb1⟩
  have HR1 := Lib.hid hr1
  have HB1 := Lib.hid hb1
  have hs1 := hb1.size
  have HA1 := Lib.hid (ka.out.below hb1 (by omega))
  have HMX := Lib.hid (maxF_any n B (.slice A L.length c) v1 C W.heap.size L w1 hr1 hs1 ((hb1.cell (p := ⟨B, 0, none⟩) (by simp; omega)).trans HK3.out) (by omega) (k4.out.below hb1 (fun i hi => by have := HLT.out i hi; omega)) (fun i hi => by have := HLT.out i hi; omega) h3 h6 HM.out HT.out)
  clear hr1 hb1 ka
  go_wp2_with fail
  refine HMX.out.mono ?_
  rintro e w2 ⟨rfl, hb2⟩
  have HA2 := Lib.hid (HA1.out.below hb2 (by omega))
  have HB2 := Lib.hid (hb2.size)
  go_wp2_with (refine store_ring rfl _ _ rfl (B + 1) zero7 (padR (mostL n L)) rfl H7.out rfl rfl HA2 ?_; intro w6 HA6 hg6 hs6)
  try simp only [Exit.inBlock, Exit.then]
  exact ret_ring rfl (B + 1) (padR (mostL n L)) H7.out rfl HA6 rfl ⟨rfl, by rw [HBB.out]; exact ((HB.out.trans (HB1.out.mono (by omega))).trans (hb2.mono (by omega))).grown hg6 (by have := HB2.out; omega) (by simp)⟩

def mvR (q : Int) (L : List (List Int)) : Int := if Tel q L then mostV q.toNat L else 0
def mrR (q : Int) (L : List (List Int)) : List Int := if Tel q L then mostL q.toNat L else []
theorem mrR_length (q : Int) (L : List (List Int)) : (mrR q L).length ≤ 7 := by
  unfold mrR
  split
  · rename_i ht
    have := (most_is q.toNat L (by have := ht.1; omega) (by have := ht.2.1; omega)).1.1
    have := ht.2.1
    omega
  · simp

set_option maxHeartbeats 1000000 in
theorem mrS_any (A : Option Addr) (n c H : Nat) (q : Int) (L : List (List Int)) (w : World) (h : RdS w H A n L) (hH : H ≤ w.heap.size) (hn : tot L ≤ 1048576) :
    Calls Try.prog 19 #[.int .i64 q, .slice A n c] w fun e w' => ∃ v, e = .returned (.tuple #[v, .bool (tel q L)]) ∧ OwnG w' w.heap.size v (mrR q L) ∧ Below w.heap.size w w' := by
  have hl := h.len
  have HC := Lib.hid (telS_any A n c H L q w h (by unfold tot at hn; omega))
  by_cases ht : Tel q L
  · obtain ⟨k, rfl, h3, h6⟩ := tel_nat ht
    have HTY := Lib.hid (tel_yes ht).1
    have HG := Lib.hid (fun p => l2Most_any A n c H k L (w.drewN p) (h.drewN p) hH h3 h6 (by have := ht.2.2.1; omega) ht.2.2.2)
    have HR : Hid (mrR (k : Int) L = mostL k L) := by rw [Hid, mrR, if_pos ht, Int.toNat_natCast]
    rw [(tel_yes ht).1] at HC
    rw [HR.out, HTY.out]
    clear h hl ht
    go_enter Try.func19, Try.ntmps19
    go_wp2_with fail
    refine HC.out.mono ?_
    rintro e w1 ⟨rfl, p, rfl⟩
    go_wp2_with fail
    refine (HG.out p).mono ?_
    rintro e w2 ⟨v, rfl, ho2, hb2⟩
    go_wp2
    go_ret2
    exact ⟨v, rfl, ho2, (below_drewN (Below.refl _ _) p).trans hb2⟩
  · have HTY := Lib.hid (tel_no ht).1
    have HR : Hid (mrR q L = []) := by rw [Hid, mrR, if_neg ht]
    rw [(tel_no ht).1] at HC
    rw [HR.out, HTY.out]
    clear h hl ht
    go_enter Try.func19, Try.ntmps19
    go_wp2_with fail
    refine HC.out.mono ?_
    rintro e w1 ⟨rfl, p, rfl⟩
    go_wp2_with fail
    refine (none_any _).mono ?_
    rintro e w3 ⟨v3, rfl, ho3, hb3⟩
    go_wp2
    go_ret2
    exact ⟨v3, rfl, ho3.gen, (below_drewN (Below.refl _ _) p).trans hb3⟩

set_option maxHeartbeats 1000000 in
theorem mrI_any (A : Option Addr) (n c H : Nat) (q : Int) (L : List (List Int)) (w : World) (h : RdS w H A n L) (hH : H ≤ w.heap.size) (_ : tot L ≤ 1048576) :
    Calls Try.prog 18 #[.int .i64 q, .slice A n c] w fun e w' => ∃ v, e = .returned (.tuple #[v, .bool (tel q L)]) ∧ OwnG w' w.heap.size v (mrR q L) ∧ Below w.heap.size w w' := by
  have HC := Lib.hid (readThrees_any A n c H L q w h hH)
  by_cases ht : Tel q L
  · obtain ⟨k, rfl, h3, h6⟩ := tel_nat ht
    have HTY := Lib.hid (tel_yes ht).1
    have HT := Lib.hid ht
    have hmi := most_is k L h3 h6
    have HR : Hid (mrR (k : Int) L = mostL k L) := by rw [Hid, mrR, if_pos ht, Int.toNat_natCast]
    have HLI := Lib.hid (fun W => list_any (mostL k L) W (by rw [hmi.1.1]; omega) (by rw [hmi.1.1]; omega) hmi.1.2.1)
    rw [(tel_yes ht).1, (tel_yes ht).2] at HC
    rw [HR.out, HTY.out]
    clear h hH ht hmi
    go_enter Try.func18, Try.ntmps18
    go_wp2_with fail
    refine HC.out.mono ?_
    rintro e w1 ⟨v1, rfl, hr1, hb1⟩
    have HG := Lib.hid (mostA_any k v1 w.heap.size L w1 hr1 h3 h6 (by have := HT.out.2.2.1; omega) HT.out.2.2.2)
    clear hr1 HC
    go_wp2_with fail
    refine HG.out.mono ?_
    rintro e w2 ⟨rfl, hb2⟩
    go_wp2_with fail
    refine (HLI.out _).mono ?_
    rintro e w3 ⟨v3, rfl, ho3, hb3⟩
    have hs2 := Nat.le_trans hb1.size hb2.size
    go_wp2
    go_ret2
    exact ⟨v3, rfl, (own_less ho3 hs2).gen, (hb1.trans (hb2.mono hb1.size)).trans (hb3.mono hs2)⟩
  · have HTY := Lib.hid (tel_no ht).1
    have HR : Hid (mrR q L = []) := by rw [Hid, mrR, if_neg ht]
    rw [(tel_no ht).1] at HC
    rw [HR.out, HTY.out]
    clear h hH ht
    go_enter Try.func18, Try.ntmps18
    go_wp2_with (go_at_call 51; refine HC.out.mono ?_; rintro e w1 ⟨v1, rfl, _, hb1⟩)
    go_ret2
    exact ⟨.slice none 0 0, rfl, .inl ⟨rfl, rfl⟩, hb1⟩
end Go.Proofs.Ytamnacgclhaggaa
