/- Lists of different points: what they are; the program's check. -/
import Derived.Test.YtjpbmhlojpaieaaDoorTell
namespace Go.Proofs.YtjpbmhlojpaieaaDoor
open Go.ChangeShapes Go.WideShapes Go.ChangeAt Go.RowKit

/-- None but points of n, and none of them twice. -/
def Pts (n : Int) (l : List Int) : Prop := (∀ x ∈ l, 0 ≤ x ∧ x < n) ∧ l.Nodup
instance (n : Int) (l : List Int) : Decidable (Pts n l) := by unfold Pts; infer_instance
def pts (n : Int) (l : List Int) : Bool := decide (Pts n l)
theorem pts_yes {n : Int} {l : List Int} (h : Pts n l) : pts n l = true := by simpa [pts] using h
theorem pts_no {n : Int} {l : List Int} (h : ¬ Pts n l) : pts n l = false := by simpa [pts] using h
theorem tell_pts (l : List Int) : Tell l ↔ (3 ≤ l.length ∧ l.length ≤ 7) ∧ Pts (l.length : Int) l := by
  unfold Tell Pts
  constructor
  · rintro ⟨h1, h2, h3, h4⟩; exact ⟨⟨h1, h2⟩, h3, h4⟩
  · rintro ⟨⟨h1, h2⟩, h3, h4⟩; exact ⟨h1, h2, h3, h4⟩

def PtsTo (n : Int) (l : List Int) (k : Nat) : Prop := (∀ j, j < k → 0 ≤ l.getD j 0 ∧ l.getD j 0 < n) ∧ (l.take k).Nodup
theorem pts_step (n : Int) (l : List Int) (k : Nat) (hkl : k < l.length) (h : PtsTo n l k) :
    (0 ≤ l.getD k 0 ∧ l.getD k 0 < n ∧ l.getD k 0 ∉ l.take k → PtsTo n l (k + 1)) ∧ (¬ (0 ≤ l.getD k 0 ∧ l.getD k 0 < n ∧ l.getD k 0 ∉ l.take k) → ¬ Pts n l) := by
  have e : l.take (k + 1) = l.take k ++ [l.getD k 0] := by
    rw [List.take_succ_eq_append_getElem hkl]; simp [List.getD, hkl]
  refine ⟨fun hx => ⟨fun j hj => ?_, ?_⟩, fun hx ht => hx ?_⟩
  · rcases Nat.lt_succ_iff_lt_or_eq.1 hj with hj | rfl
    · exact h.1 j hj
    · exact ⟨hx.1, hx.2.1⟩
  · rw [e, List.nodup_append]
    refine ⟨h.2, by simp, ?_⟩
    intro a ha b hb
    simp only [List.mem_singleton] at hb
    subst hb
    rintro rfl
    exact hx.2.2 ha
  · have hm := ht.1 _ (getD_mem l k hkl)
    refine ⟨hm.1, hm.2, ?_⟩
    have hd := ht.2
    rw [← List.take_append_drop (k + 1) l, e] at hd
    have := (List.nodup_append.1 (List.nodup_append.1 hd).1).2.2
    intro hmem
    exact this _ hmem _ (by simp) rfl
theorem pts_end (n : Int) (l : List Int) (h : PtsTo n l l.length) : Pts n l := by
  refine ⟨fun x hx => ?_, ?_⟩
  · obtain ⟨j, hj, rfl⟩ := List.getElem_of_mem hx
    have := h.1 j (by omega)
    simpa [List.getD, hj] using this
  · have := h.2
    rwa [List.take_of_length_le (by omega)] at this

theorem pointsIn_any (A : Option Addr) (m c H : Nat) (l : List Int) (n : Int) (w : World) (h : Rd w H A m l) (hm : m ≤ 1048576) (hmc : m ≤ c) (hcm : c ≤ 9223372036854775807) :
    Calls Tryd.prog 51 #[.int .i64 n, .slice A m c] w fun e w' => e = .returned (.bool (pts n l)) ∧ w' = w := by
  have HL := Lib.hid h.len
  have HR := Lib.hid h
  clear h
  go_enter Tryd.func51, Tryd.ntmps51
  go_wp2
  go_loop [9] (fun i => ∃ k : Nat, k ≤ m ∧ i = .int .i64 k ∧ Hid (PtsTo n l k)) (fun i => m - (intOf i).toNat)
  case atStart => exact ⟨0, Nat.zero_le _, rfl, ⟨fun j hj => absurd hj (by omega), by simp⟩⟩
  case round =>
    obtain ⟨k, hk, rfl, hin⟩ := hrel
    by_cases hlt : k < m
    · obtain ⟨b, o, rfl, hbH, hcs⟩ := HR.out.at_ (by omega)
      have hc := hcs k hlt
      have hsub : Rd w H (some ⟨b, o, none⟩) k (l.take k) := ⟨by rw [List.length_take, HL.out]; omega, fun _ => ⟨b, o, rfl, hbH, fun j hj => by
        rw [hcs j (by omega)]; simp [List.getD, hj]⟩⟩
      have T1 := Lib.hid (pts_step n l k (by rw [HL.out]; exact hlt) hin.out)
      clear hcs
      generalize hx : l.getD k 0 = x at hc T1
      clear hx
      have HC := Lib.hid (contains_any (some ⟨b, o, none⟩) k c H (l.take k) x w hsub (by omega))
      clear hsub hin
      generalize hmk : decide (x ∈ l.take k) = mem at HC
      have HM := Lib.hid hmk
      clear hmk
      by_cases h0 : x < 0
      · have TF := Lib.hid (pts_no (T1.out.2 (fun hh => by omega)))
        clear T1 HC
        go_wp2
        go_ret
        exact ⟨by rw [TF.out]; rfl, rfl⟩
      · by_cases h1 : n ≤ x
        · have TF := Lib.hid (pts_no (T1.out.2 (fun hh => by omega)))
          clear T1 HC
          go_wp2
          go_ret
          exact ⟨by rw [TF.out]; rfl, rfl⟩
        · have g0 : decide (x < 0) = false := by simp; omega
          cases hmem : mem
          · subst hmem
            have TT := Lib.hid (T1.out.1 ⟨by omega, by omega, by have := HM.out; simpa using this⟩)
            clear T1
            go_wp2_with (go_at_call 80; refine HC.out.mono ?_; rintro e w' ⟨rfl, rfl⟩)
            go_round
            case rel => exact ⟨k + 1, by omega, by go_num, TT⟩
            case measure => simp [intOf]; omega
          · subst hmem
            have TF := Lib.hid (pts_no (T1.out.2 (fun hh => by have := HM.out; simp at this; exact hh.2.2 this)))
            clear T1
            go_wp2_with (go_at_call 80; refine HC.out.mono ?_; rintro e w' ⟨rfl, rfl⟩)
            go_ret
            exact ⟨by rw [TF.out]; rfl, rfl⟩
    · obtain rfl : k = m := by omega
      have HT := Lib.hid (pts_yes (pts_end n l (by rw [HL.out]; exact hin.out)))
      clear hin
      go_wp2
      go_ret
      exact ⟨by rw [HT.out]; rfl, rfl⟩
end Go.Proofs.YtjpbmhlojpaieaaDoor
