/- Rings of schemes: contracts over slices of rows at hand. -/
import Derived.Test.YtamnacgclhaggabRwS
import Derived.Test.YtamnacgclhaggabPqR
import Derived.Test.YtamnacgclhaggabPfV
import Derived.Test.YtamnacgclhaggabPartT
import Derived.Test.YtamnacgclhaggabNumT
import Derived.Test.YtamnacgclhaggabLawM
namespace Go.Proofs.Ytamnacgclhaggab
open Go.ChangeShapes Go.WideShapes Go.ChangeAt Go.RowKit

section
variable {w : World} {A : Option Addr} {n c : Nat} {L : List (List Int)} (h : RwS w A n c L) (q : Int)
include h
theorem cI_PairRings : Calls Try.prog 23 #[.int .i64 q, .slice A n c] w fun e w' => e = .returned (.tuple #[.int .i64 (prV q L), .bool (schB q L)]) ∧ Below w.heap.size w w' := prI_any A n c w.heap.size q L w h.rd (Nat.le_refl _) h.1.2
theorem cS_PairRings : Calls Try.prog 24 #[.int .i64 q, .slice A n c] w fun e w' => e = .returned (.tuple #[.int .i64 (prV q L), .bool (schB q L)]) ∧ Below w.heap.size w w' := prS_any A n c w.heap.size q L w h.rd (Nat.le_refl _) h.1.2
theorem cI_PairFirst : Calls Try.prog 25 #[.int .i64 q, .slice A n c] w fun e w' => ∃ v, e = .returned (.tuple #[v, .bool (pfB q L)]) ∧ NewR w' v (pfR q L) ∧ Below w.heap.size w w' :=
  (pfIw_any A n c w.heap.size q L w h.rd (Nat.le_refl _) h.1.2).mono fun _ _ ⟨v, e1, ho, hb⟩ => ⟨v, e1, ho.newR (pfR_length q L), hb⟩
theorem cS_PairFirst : Calls Try.prog 27 #[.int .i64 q, .slice A n c] w fun e w' => ∃ v, e = .returned (.tuple #[v, .bool (pfB q L)]) ∧ NewG w' v (pfR q L) ∧ Below w.heap.size w w' :=
  (pfS_any A n c w.heap.size q L w h.rd (Nat.le_refl _) h.1.2).mono fun _ _ ⟨v, e1, ho, hb⟩ => ⟨v, e1, ho.newG (pfR_length q L), hb⟩
end
section
variable {w : World} {A A' : Option Addr} {n c m d : Nat} {l t : List Int}
theorem cM_RingNumber (h : Rw w A n c l) : Calls Try.prog 17 #[.slice A n c] w fun e w' => e = .returned (.tuple #[.int .i64 (numR l), .bool (ringB l)]) ∧ Below w.heap.size w w' :=
  (nuI_any A n c w.heap.size l  w h.rd (Nat.le_refl _) h.big h.2.1 h.2.2.1).mono fun _ _ hq => hq
theorem cI_PairPartsR (h : Rw w A n c l) (h' : Rd w w.heap.size A' m t) (hm : m ≤ 1048576) (hmd : m ≤ d) (hdm : d ≤ 9223372036854775807) : Calls Try.prog 28 #[.slice A n c, .slice A' m d] w fun e w' => e = .returned (.bool (prtB l t)) ∧ Below w.heap.size w w' :=
  ppI_any A n c A' m d w.heap.size l t w h.rd h' (Nat.le_refl _) h.big hm h.2.1 h.2.2.1 hmd hdm
end
theorem pf_told {q : Int} {L : List (List Int)} (h : pfB q L = true) : Ring (pfR q L) ∧ Ring (backL (pfR q L)) ∧ (∀ t ∈ L, prtB (pfR q L) t = true ∧ t.length = 4) ∧ numR (pfR q L) < numR (backL (pfR q L)) := by
  unfold pfB at h
  rw [Bool.and_eq_true, decide_eq_true_eq] at h
  obtain ⟨hs, h0⟩ := h
  obtain ⟨h4, h6, h20, hF⟩ := sch_yes hs
  obtain ⟨k, rfl⟩ : ∃ k : Nat, q = (k : Int) := ⟨q.toNat, by omega⟩
  rw [Int.toNat_natCast] at h0
  have e : pfR (k : Int) L = rowK (prL k L) 0 := by rw [pfR, if_pos hs, Int.toNat_natCast]
  have hm := rowK_mem h0
  rw [← e] at hm
  have h3' : 3 ≤ k := by omega
  have h6' : k ≤ 6 := by omega
  obtain ⟨hr1, hr2⟩ := pr_mem.1 hm
  obtain ⟨hb, hne, hbb, hr⟩ := pq_ring h3' h6' hr1
  have hrb := (pq_ring h3' h6' hb).2.2.2
  have hI := ringsL_is k h3' h6' _ hr1
  have hIb := ringsL_is k h3' h6' _ hb
  refine ⟨hr, hrb, fun t ht => ⟨?_, (hF t ht).1⟩, ?_⟩
  · obtain ⟨x, y, z, u, rfl, f⟩ := four_f4 hr.1 (by rw [hI.1]; exact hF t ht)
    rw [prt_of hr f]
    exact hr2 _ ht
  · have ha := first_ahead h3' h6' hF h0
    rw [← e] at ha
    unfold numR
    rw [if_pos hr, if_pos hrb, hI.1, hIb.1]
    exact ha
end Go.Proofs.Ytamnacgclhaggab
