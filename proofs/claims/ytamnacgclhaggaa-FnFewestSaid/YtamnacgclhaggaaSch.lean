/- Schemes: what they are; the model's check; the program's reading of one. -/
import Derived.Test.YtamnacgclhaggaaEach4
import Derived.Test.YtamnacgclhaggaaFour
namespace Go.Proofs.Ytamnacgclhaggaa
open Go.ChangeShapes Go.WideShapes Go.ChangeAt Go.RowKit

def schB (n : Int) (L : List (List Int)) : Bool := (decide (4 ≤ n) && decide (n ≤ 6)) && (decide (L.length ≤ 20) && allB (four n) L)
theorem sch_yes {n : Int} {L : List (List Int)} (h : schB n L = true) : 4 ≤ n ∧ n ≤ 6 ∧ L.length ≤ 20 ∧ ∀ l ∈ L, Four n l := by
  unfold schB at h
  simp only [Bool.and_eq_true, decide_eq_true_eq, allB_iff] at h
  exact ⟨h.1.1, h.1.2, h.2.1, fun l hl => by have := h.2.2 l hl; simpa [four] using this⟩

set_option maxRecDepth 10000 in
set_option maxHeartbeats 400000 in
theorem scS_any (A : Option Addr) (m c H : Nat) (L : List (List Int)) (n : Int) (w : World) (h : RdS w H A m L) (hm : m ≤ 1048576) :
    Calls Try.prog 27 #[.int .i64 n, .slice A m c] w fun e w' => e = .returned (.bool (schB n L)) ∧ w' = w := by
  have HL := Lib.hid h.len
  by_cases hn : 4 ≤ n ∧ n ≤ 6
  · have hb : (decide (4 ≤ n) && decide (n ≤ 6)) = true := by simp; omega
    obtain ⟨h3, h6⟩ := hn
    go_enter Try.func27, Try.ntmps27
    go_wp2_with (go_at_call 67; refine (in_any _ _ _ _).mono ?_; rintro e w' ⟨rfl, rfl⟩)
    have HBB := Lib.hid hb
    clear hb
    go_loop [5] (fun i => ∃ k : Nat, k ≤ m ∧ i = .int .i64 k ∧ Hid (AllTo (four n) L k)) (fun i => m - (intOf i).toNat)
    case atStart => exact ⟨0, Nat.zero_le _, rfl, fun j hj => absurd hj (by omega)⟩
    case round =>
      obtain ⟨k, hk, rfl, hto⟩ := hrel
      by_cases hlt : k < m
      · obtain ⟨b, o, rfl, hbB, hcs⟩ := h.at_ (by omega)
        obtain ⟨Ak, ck, hc, hr, hz, hcm⟩ := hcs k hlt
        have HHH := Lib.hid h
        have HS := Lib.hid (all_no (q := four n) (L := L) (k := k) (by rw [HL.out]; exact hlt))
        have HT := Lib.hid (allTo_step hto.out)
        have HC := Lib.hid (l3Four_any Ak _ ck H (rowK L k) n w hr (by omega) (by omega) (by omega))
        clear hcs hr hcm hz h
        generalize (rowK L k).length = z at *
        cases ht : four n (rowK L k)
        · have T1 := Lib.hid (HS.out ht)
          rw [ht] at HC
          clear HT HS ht
          go_wp2_with (go_at_call 63; refine HC.out.mono ?_; rintro e w' ⟨rfl, rfl⟩)
          go_ret
          exact ⟨by rw [schB, T1.out.1]; simp, rfl⟩
        · have T1 := Lib.hid (HT.out ht)
          rw [ht] at HC
          clear HT HS ht
          go_wp2_with (go_at_call 63; refine HC.out.mono ?_; rintro e w' ⟨rfl, rfl⟩)
          go_round
          case rel => exact ⟨k + 1, by omega, by go_num, T1⟩
          case measure => simp [intOf]; omega
      · obtain rfl : k = m := by omega
        have hto' := hto.out
        rw [← HL.out] at hto'
        have T1 : Hid (schB n L = decide ((k : Int) ≤ 20)) := by
          rw [Hid, schB, HBB.out, (all_yes (allTo_all hto')).1, HL.out]
          simp
          omega
        clear hto'
        go_wp2
        go_ret
        exact ⟨by rw [T1.out]; rfl, rfl⟩
  · have hb : (decide (4 ≤ n) && decide (n ≤ 6)) = false := by simp; omega
    have T1 : Hid (schB n L = false) := by rw [Hid, schB, hb]; simp
    clear hn
    go_enter Try.func27, Try.ntmps27
    go_wp2_with (go_at_call 67; refine (in_any _ _ _ _).mono ?_; rintro e w' ⟨rfl, rfl⟩)
    go_ret
    exact ⟨by rw [T1.out]; rfl, rfl⟩

theorem partedIn_any (n : Int) (w : World) :
    Calls Try.prog 81 #[.int .i64 n] w fun e w' => e = .returned (.bool (decide (4 ≤ n) && decide (n ≤ 6))) ∧ w = w' := by
  by_cases h : 4 ≤ n
  all_goals
    go_enter Try.func81, Try.ntmps81
    go_wp2
    all_goals
      go_ret
      exact ⟨by first | (simp_all; done) | (simp_all; omega), rfl⟩

/-- The program's scheme: a function that ranges over a row of partings. -/
def SeqP (w : World) (B : Nat) (f : Value) (L : List (List Int)) : Prop :=
  ∃ g v, f = .func (.func 125) #[] #[.pointer (some ⟨g, 0, none⟩)] ∧ B ≤ g ∧ g < w.heap.size ∧ w.cell? ⟨g, 0, none⟩ = some v ∧ RowN w B 79 4 v L ∧ v.ownBlock ≠ some g

set_option maxRecDepth 10000 in
set_option maxHeartbeats 1000000 in
theorem readScheme_any (A : Option Addr) (m c H : Nat) (L : List (List Int)) (n : Int) (w : World) (h : RdS w H A m L) (hH : H ≤ w.heap.size) :
    Calls Try.prog 66 #[.int .i64 n, .slice A m c] w fun e w' => ∃ f, e = .returned (.tuple #[f, .bool (schB n L)]) ∧ (schB n L = true → SeqP w' w.heap.size f L) ∧ Below w.heap.size w w' := by
  have HL := Lib.hid h.len
  by_cases hn : (4 ≤ n ∧ n ≤ 6) ∧ m ≤ 20
  rotate_left
  · have T1 : Hid (schB n L = false) := by
      rw [Hid, Bool.eq_false_iff]
      intro hh
      have := sch_yes hh
      have := HL.out
      omega
    by_cases h3 : 4 ≤ n ∧ n ≤ 6
    · have hb : (decide (4 ≤ n) && decide (n ≤ 6)) = true := by simp; omega
      have hm : decide ((20 : Int) < (m : Int)) = true := by simp; omega
      clear hn h3
      go_enter Try.func66, Try.ntmps66
      go_wp2_with (go_at_call 81; refine (partedIn_any _ _).mono ?_; rintro e w' ⟨rfl, rfl⟩)
      go_ret2
      exact ⟨_, by rw [T1.out]; rfl, fun hh => (by rw [T1.out] at hh; cases hh), Below.refl _ _⟩
    · have hb : (decide (4 ≤ n) && decide (n ≤ 6)) = false := by simp; omega
      clear hn h3
      go_enter Try.func66, Try.ntmps66
      go_wp2_with (go_at_call 81; refine (partedIn_any _ _).mono ?_; rintro e w' ⟨rfl, rfl⟩)
      go_ret2
      exact ⟨_, by rw [T1.out]; rfl, fun hh => (by rw [T1.out] at hh; cases hh), Below.refl _ _⟩
  · obtain ⟨⟨h3, h6⟩, hm⟩ := hn
    have hb : (decide (4 ≤ n) && decide (n ≤ 6)) = true := by simp; omega
    have hm' : decide ((20 : Int) < (m : Int)) = false := by simp; omega
    have T1 : Hid (schB n L = allB (four n) L) := by
      rw [Hid, schB, hb, HL.out]
      simp [hm]
    have HE := Lib.hid (each_four A m c H L n w h hH (by omega))
    clear h
    go_enter Try.func66, Try.ntmps66
    go_wp2_with (first
      | (go_at_call 81; refine (partedIn_any _ _).mono ?_; rintro e w' ⟨rfl, rfl⟩))
    refine HE.out.mono ?_
    rintro e w1 ⟨v, rfl, hv, hb1⟩
    have HB1 := Lib.hid hb1
    obtain ⟨Av, cv, e⟩ := hv.slice
    have HV := Lib.hid hv
    have hblt := fun k hk => (hv.lt k hk).2
    have HBK := Lib.hid hblt
    clear hv hb1 HE hb hm' hblt
    subst e
    have HC1 : Hid ((w1.alloc (.cells #[.slice Av (allL (four n) L).length cv] 121)).cell? ⟨w1.heap.size, 0, none⟩ = some (.slice Av (allL (four n) L).length cv)) := by
      rw [Hid, cell_of_row _ _ _ _ _ (0, 0) (heap_alloc_new w1 _)]
      rfl
    have HV1 := Lib.hid (HV.out.alloc (.cells #[.slice Av (allL (four n) L).length cv] 121))
    have hs1 := HB1.out.size
    go_wp2
    go_ret2
    refine ⟨_, by rw [T1.out]; rfl, fun hh => ?_, HB1.out.alloc (by omega) _⟩
    rw [T1.out] at hh
    have e : allL (four n) L = L := by rw [allL, if_pos hh]
    refine ⟨w1.heap.size, .slice Av (allL (four n) L).length cv, rfl, hs1, by simp, HC1.out, ?_, fun e2 => ?_⟩
    · have h := HV1.out
      rw [e] at h ⊢
      exact h
    · have := HBK.out _ e2
      omega

set_option maxHeartbeats 400000 in
theorem scI_any (A : Option Addr) (m c H : Nat) (L : List (List Int)) (n : Int) (w : World) (h : RdS w H A m L) (hH : H ≤ w.heap.size) :
    Calls Try.prog 26 #[.int .i64 n, .slice A m c] w fun e w' => e = .returned (.bool (schB n L)) ∧ Below w.heap.size w w' := by
  have HR := Lib.hid (readScheme_any A m c H L n w h hH)
  clear h
  generalize schB n L = r at *
  go_enter Try.func26, Try.ntmps26
  go_wp2_with fail
  refine HR.out.mono ?_
  rintro e w1 ⟨f, rfl, _, hb⟩
  have HB := Lib.hid hb
  clear hb
  go_wp2
  go_ret
  exact ⟨rfl, HB.out⟩

theorem psS_any (A : Option Addr) (m c H : Nat) (n : Int) (L : List (List Int)) (w : World) (h : RdS w H A m L) (_ : H ≤ w.heap.size) (hn : tot L ≤ 1048576) :
    Calls Try.prog 27 #[.int .i64 n, .slice A m c] w fun e w' => e = .returned (.bool (schB n L)) ∧ Below w.heap.size w w' := by
  refine (scS_any A m c H L n w h (by have := h.len; unfold tot at hn; omega)).mono ?_
  rintro e w' ⟨rfl, rfl⟩
  exact ⟨rfl, Below.refl _ _⟩
theorem psI_any (A : Option Addr) (m c H : Nat) (n : Int) (L : List (List Int)) (w : World) (h : RdS w H A m L) (hH : H ≤ w.heap.size) (_ : tot L ≤ 1048576) :
    Calls Try.prog 26 #[.int .i64 n, .slice A m c] w fun e w' => e = .returned (.bool (schB n L)) ∧ Below w.heap.size w w' := scI_any A m c H L n w h hH
end Go.Proofs.Ytamnacgclhaggaa
