/- Lists of pairs: the model's check, the model's count of those that part each other. -/
import Derived.Test.YtamnacgclhaggaaPE
import Derived.Test.YtamnacgclhaggaaPart
namespace Go.Proofs.Ytamnacgclhaggaa
open Go.ChangeShapes Go.WideShapes Go.ChangeAt Go.RowKit

def choB (n : Int) (L : List (List Int)) : Bool := decide (L.length ≤ 8) && allB (two n) L
theorem cho_yes {n : Int} {L : List (List Int)} (h : choB n L = true) : L.length ≤ 8 ∧ ∀ l ∈ L, Two n l := by
  unfold choB at h
  simp only [Bool.and_eq_true, decide_eq_true_eq, allB_iff] at h
  exact ⟨h.1, fun l hl => by have := h.2 l hl; simpa [two] using this⟩
theorem twoL2 (n x y : Int) : Two n [x, y] ↔ (0 ≤ x ∧ x ≤ n - 1) ∧ (0 ≤ y ∧ y ≤ n - 1) ∧ x ≠ y := by
  unfold Two Pts
  simp only [List.mem_cons, List.not_mem_nil, or_false, List.nodup_cons, List.nodup_nil, and_true, forall_eq_or_imp, forall_eq, List.length_cons, List.length_nil]
  constructor
  · rintro ⟨_, ⟨hx, hy⟩, h1, _⟩; exact ⟨by omega, by omega, fun e => h1 e⟩
  · rintro ⟨hx, hy, h1⟩; exact ⟨trivial, ⟨by omega, by omega⟩, fun e => h1 e, by simp⟩

set_option maxRecDepth 10000 in
set_option maxHeartbeats 2000000 in
theorem l3Chords_any (A : Option Addr) (m c H : Nat) (L : List (List Int)) (n : Int) (w : World) (h : RdS w H A m L) (hm : m ≤ 1048576) (h3 : 3 ≤ n) (h7 : n ≤ 7) :
    Calls Try.prog 79 #[.int .i64 n, .slice A m c] w fun e w' => e = .returned (.bool (choB n L)) ∧ ∃ q, w' = w.drewN q := by
  have HL := Lib.hid h.len
  have hwn : IntKind.i64.wrap (n - 1) = n - 1 := IntWalk.i64_in _ (by omega)
  go_enter Try.func79, Try.ntmps79
  go_wp2_with fail
  go_loopw [5] (fun i wr => ∃ k : Nat, k ≤ m ∧ i = .int .i64 k ∧ Hid (AllTo (two n) L k) ∧ RdS wr H A m L ∧ ∃ q, wr = w.drewN q) (fun i _ => m - (intOf i).toNat)
  case atStart => exact ⟨0, Nat.zero_le _, rfl, fun j hj => absurd hj (by omega), h, 0, rfl⟩
  case round =>
    obtain ⟨k, hk, rfl, hto, hrd, q, hq⟩ := hrel
    have HQ := Lib.hid hq
    clear hq h
    by_cases hlt : k < m
    · obtain ⟨b, o, rfl, hbB, hcs⟩ := hrd.at_ (by omega)
      obtain ⟨Ak, ck, hc, hr, hz, hcm⟩ := hcs k hlt
      have HS := Lib.hid (all_no (q := two n) (L := L) (k := k) (by rw [HL.out]; exact hlt))
      have HT := Lib.hid (allTo_step hto.out)
      have hfin : two n (rowK L k) = false → choB n L = false := fun h2 => by
        rw [choB, (HS.out h2).1]; simp
      have HF := Lib.hid hfin
      have HRD := Lib.hid hrd
      clear hcs hcm hfin HS hrd
      by_cases h2 : (rowK L k).length = 2
      · obtain ⟨x, y, hxy⟩ := of_two h2
        rw [hxy] at hr hc HF HT hz
        have hz' : 2 ≤ ck := hz
        have hc' : wr.cell? ⟨b, o + k, none⟩ = some (.slice Ak 2 ck) := hc
        have hr' : Rd wr H Ak 2 [x, y] := hr
        obtain ⟨b2, o2, rfl, _, c0, c1⟩ := rd2 hr'
        clear hr hc hr' h2 hxy hz
        have key := twoL2 n x y
        by_cases p0 : 0 ≤ x ∧ x ≤ n - 1
        rotate_left
        · have T1 : Hid (choB n L = false) := HF.out (by rw [two, decide_eq_false_iff_not, key]; exact fun hh => p0 hh.1)
          have Ix := Lib.hid (show (decide (0 ≤ x) && decide (x ≤ n - 1)) = false by simp; omega)
          clear HF HT key p0
          go_wp2
          go_quiet (first | (go_at_call_of 67 x; refine Calls.quiet_of_same ((in_no x 0 (n - 1) _ ?_)); exact Ix.out))
          go_wp2
          go_ret
          exact ⟨by rw [T1.out]; rfl, q + nq, by rw [HQ.out, World.drewN_drewN]⟩
        have Ix := Lib.hid (show (decide (0 ≤ x) && decide (x ≤ n - 1)) = true by simp; omega)
        by_cases p1 : 0 ≤ y ∧ y ≤ n - 1
        rotate_left
        · have T1 : Hid (choB n L = false) := HF.out (by rw [two, decide_eq_false_iff_not, key]; exact fun hh => p1 hh.2.1)
          have Iy := Lib.hid (show (decide (0 ≤ y) && decide (y ≤ n - 1)) = false by simp; omega)
          clear HF HT key p1
          go_wp2
          go_quiet (first | (go_at_call_of 67 x; refine Calls.quiet_of_same ((in_yes x 0 (n - 1) _ ?_)); exact Ix.out) | (go_at_call_of 67 y; refine Calls.quiet_of_same ((in_no y 0 (n - 1) _ ?_)); exact Iy.out))
          go_wp2
          go_ret
          exact ⟨by rw [T1.out]; rfl, q + nq, by rw [HQ.out, World.drewN_drewN]⟩
        have Iy := Lib.hid (show (decide (0 ≤ y) && decide (y ≤ n - 1)) = true by simp; omega)
        by_cases hxy : x = y
        · have T1 : Hid (choB n L = false) := HF.out (by rw [two, decide_eq_false_iff_not, key]; exact fun hh => hh.2.2 hxy)
          have he : (x == y) = true := by simpa using hxy
          clear HF HT key hxy
          go_wp2
          go_quiet (first | (go_at_call_of 67 x; refine Calls.quiet_of_same ((in_yes x 0 (n - 1) _ ?_)); exact Ix.out) | (go_at_call_of 67 y; refine Calls.quiet_of_same ((in_yes y 0 (n - 1) _ ?_)); exact Iy.out))
          go_wp2
          go_ret
          exact ⟨by rw [T1.out]; rfl, q + nq, by rw [HQ.out, World.drewN_drewN]⟩
        · have T1 := Lib.hid (HT.out (by rw [two, decide_eq_true_eq, key]; exact ⟨p0, p1, hxy⟩))
          have he : (x == y) = false := by simpa using hxy
          clear HF HT key hxy p0 p1
          go_wp2
          go_quiet (first | (go_at_call_of 67 x; refine Calls.quiet_of_same ((in_yes x 0 (n - 1) _ ?_)); exact Ix.out) | (go_at_call_of 67 y; refine Calls.quiet_of_same ((in_yes y 0 (n - 1) _ ?_)); exact Iy.out))
          go_wp2
          go_roundw
          case rel => exact ⟨k + 1, by omega, by go_num, T1, HRD.out.drewN _, q + nq, by rw [HQ.out, World.drewN_drewN]⟩
          case measure => simp [intOf]; omega
      · have T1 : Hid (choB n L = false) := HF.out (by rw [two, decide_eq_false_iff_not]; exact fun hh => h2 hh.1)
        obtain ⟨z, hz0⟩ : ∃ z, z = (rowK L k).length := ⟨_, rfl⟩
        rw [← hz0] at h2 hc
        have he : ((z : Int) != 2) = true := by simp; omega
        clear HF HT hr hz h2 hz0
        go_wp2
        go_quiet (fail)
        go_wp2
        go_ret
        exact ⟨by rw [T1.out]; rfl, q + nq, by rw [HQ.out, World.drewN_drewN]⟩
    · obtain rfl : k = m := by omega
      have hto' := hto.out
      rw [← HL.out] at hto'
      have T1 : Hid (choB n L = decide ((k : Int) ≤ 8)) := by
        rw [Hid, choB, (all_yes (allTo_all hto')).1, HL.out]
        simp
        omega
      clear hto'
      go_wp2
      go_ret
      exact ⟨by rw [T1.out]; rfl, q, HQ.out⟩
end Go.Proofs.Ytamnacgclhaggaa
