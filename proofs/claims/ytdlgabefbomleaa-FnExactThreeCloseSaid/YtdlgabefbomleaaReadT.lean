/- The program's reading of a three. -/
import Derived.Test.YtdlgabefbomleaaTri
import Derived.StillTailTactics
namespace Go.Proofs.Ytdlgabefbomleaa
open Go.ChangeShapes Go.WideShapes Go.ChangeAt Go.RowKit

/-- What is read: the three, or three noughts. -/
def thrL (n : Int) (l : List Int) : List Int := if Thr n l then l else [0, 0, 0]
theorem thrL_length (n : Int) (l : List Int) : (thrL n l).length = 3 := by
  unfold thrL
  split
  · rename_i h; exact h.1
  · rfl
theorem thr_yes {n : Int} {l : List Int} (h : Thr n l) : thr n l = true ∧ thrL n l = l := ⟨by simpa [thr] using h, by rw [thrL, if_pos h]⟩
theorem thr_no {n : Int} {l : List Int} (h : ¬ Thr n l) : thr n l = false ∧ thrL n l = [0, 0, 0] := ⟨by simpa [thr] using h, by rw [thrL, if_neg h]⟩

def ThrTo (n : Int) (l : List Int) (k : Nat) : Prop := (∀ j, j < k → 0 ≤ l.getD j 0 ∧ l.getD j 0 < n) ∧ (l.take k).Nodup
theorem thr_step (n : Int) (l : List Int) (k : Nat) (hl : l.length = 3) (hk : k < 3) (h : ThrTo n l k) :
    (0 ≤ l.getD k 0 ∧ l.getD k 0 < n ∧ l.getD k 0 ∉ l.take k → ThrTo n l (k + 1)) ∧ (¬ (0 ≤ l.getD k 0 ∧ l.getD k 0 < n ∧ l.getD k 0 ∉ l.take k) → ¬ Thr n l) := by
  have hkl : k < l.length := by omega
  have e : l.take (k + 1) = l.take k ++ [l.getD k 0] := by
    rw [List.take_succ_eq_append_getElem hkl]; simp [List.getD, hkl]
  refine ⟨fun hx => ⟨fun j hj => ?_, ?_⟩, fun hx ht => hx ?_⟩
  · rcases Nat.lt_succ_iff_lt_or_eq.1 hj with hj | rfl
    · exact h.1 j hj
    · exact ⟨hx.1, hx.2.1⟩
  · rw [e, List.nodup_append]
    refine ⟨h.2, by simp, ?_⟩
    intro a ha b hb
    simp only [List.mem_singleton] at hb
    subst hb
    rintro rfl
    exact hx.2.2 ha
  · have hm := ht.2.1 _ (getD_mem l k hkl)
    refine ⟨hm.1, hm.2, ?_⟩
    have hd := ht.2.2
    rw [← List.take_append_drop (k + 1) l, e] at hd
    have := (List.nodup_append.1 (List.nodup_append.1 hd).1).2.2
    intro hmem
    exact this _ hmem _ (by simp) rfl
theorem thr_end (n : Int) (l : List Int) (hl : l.length = 3) (h : ThrTo n l 3) : Thr n l := by
  refine ⟨hl, fun x hx => ?_, ?_⟩
  · obtain ⟨j, hj, rfl⟩ := List.getElem_of_mem hx
    have := h.1 j (by omega)
    simpa [List.getD, hj] using this
  · have := h.2
    rwa [List.take_of_length_le (by omega)] at this

abbrev zero3 : List Int := [0, 0, 0]
theorem new_tri (w : World) : Tri (w.alloc (.cells #[.int .i64 0, .int .i64 0, .int .i64 0] 52)) w.heap.size zero3 := heap_alloc_new w _

set_option maxRecDepth 10000 in
set_option maxHeartbeats 1000000 in
theorem readThree_any (A : Option Addr) (m c H : Nat) (l : List Int) (n : Int) (w : World) (h : Rd w H A m l) (hH : H ≤ w.heap.size) (hmc : m ≤ c) (hcm : c ≤ 9223372036854775807) :
    Calls Try.prog 52 #[.int .i64 n, .slice A m c] w fun e w' => e = .returned (.tuple #[.agg (ints (thrL n l)).toArray, .bool (thr n l)]) ∧ Below w.heap.size w w' := by
  have HL := Lib.hid h.len
  go_enter Try.func52, Try.ntmps52
  by_cases hm3 : m = 3
  · subst hm3
    go_wp2
    obtain ⟨W0, h0⟩ : ∃ W, W = w.alloc (.cells #[.int .i64 0, .int .i64 0, .int .i64 0] 52) := ⟨_, rfl⟩
    rw [← h0]
    have hs0 : W0.heap.size = w.heap.size + 1 := by rw [h0]; simp
    have hb0 : Below w.heap.size w W0 := by rw [h0]; exact (Below.refl _ _).alloc (Nat.le_refl _) _
    have ha0 : Hid (Tri W0 w.heap.size zero3) := by rw [h0]; exact new_tri w
    have hr0 : Rd W0 H A 3 l := h.below (hb0.mono hH)
    clear h h0
    generalize hB : w.heap.size = B at *
    have HB := Lib.hid hB
    clear hB
    go_loopw [14] (fun i wr => ∃ k : Nat, k ≤ 3 ∧ i = .int .i64 k ∧ Hid (ThrTo n l k) ∧ wr = W0) (fun i _ => 3 - (intOf i).toNat)
    case atStart => exact ⟨0, Nat.zero_le _, rfl, ⟨fun j hj => absurd hj (by omega), by simp⟩, rfl⟩
    case round =>
      obtain ⟨k, hk, rfl, hin, rfl⟩ := hrel
      by_cases hlt : k < 3
      · obtain ⟨b, o, rfl, hbH, hcs⟩ := hr0.at_ (by omega)
        have hc := hcs k hlt
        have hsub : Rd wr H (some ⟨b, o, none⟩) k (l.take k) := ⟨by rw [List.length_take, HL.out]; omega, fun _ => ⟨b, o, rfl, hbH, fun j hj => by
          rw [hcs j (by omega)]; simp [List.getD, hj]⟩⟩
        have T1 := Lib.hid (thr_step n l k HL.out hlt hin.out)
        clear hcs
        generalize hx : l.getD k 0 = x at hc T1
        clear hx
        have HC := Lib.hid (contains_any (some ⟨b, o, none⟩) k c H (l.take k) x wr hsub (by omega))
        clear hsub hin
        generalize hmk : decide (x ∈ l.take k) = mem at HC
        have HM := Lib.hid hmk
        clear hmk
        by_cases h0 : x < 0
        · have TF := Lib.hid (thr_no (T1.out.2 (fun hh => by omega)))
          clear T1 HC hr0
          go_wp2_with (refine store_tri rfl _ _ rfl B zero3 zero3 rfl rfl rfl rfl ha0 ?_; intro w6 HB6 hg6 _)
          exact ret_tri2 rfl B zero3 rfl rfl HB6 rfl ⟨by rw [TF.out.1, TF.out.2]; rfl, by rw [HB.out]; exact hb0.grown hg6 (by omega) (by simp)⟩
        · by_cases h1 : n ≤ x
          · have TF := Lib.hid (thr_no (T1.out.2 (fun hh => by omega)))
            clear T1 HC hr0
            go_wp2_with (refine store_tri rfl _ _ rfl B zero3 zero3 rfl rfl rfl rfl ha0 ?_; intro w6 HB6 hg6 _)
            exact ret_tri2 rfl B zero3 rfl rfl HB6 rfl ⟨by rw [TF.out.1, TF.out.2]; rfl, by rw [HB.out]; exact hb0.grown hg6 (by omega) (by simp)⟩
          · have g0 : decide (x < 0) = false := by simp; omega
            cases hmem : mem
            · subst hmem
              have TT := Lib.hid (T1.out.1 ⟨by omega, by omega, by have := HM.out; simpa using this⟩)
              clear T1
              go_wp2_with (go_at_call 83; refine HC.out.mono ?_; rintro e w' ⟨rfl, rfl⟩)
              go_roundw
              case rel => exact ⟨k + 1, by omega, by go_num, TT, by first | rfl | trivial⟩
              case measure => simp [intOf]; omega
            · subst hmem
              have TF := Lib.hid (thr_no (T1.out.2 (fun hh => by have := HM.out; simp at this; exact hh.2.2 this)))
              clear T1 hr0
              go_wp2_with (first
                | (go_at_call 83; refine HC.out.mono ?_; rintro e w' ⟨rfl, rfl⟩)
                | (refine store_tri rfl _ _ rfl B zero3 zero3 rfl rfl rfl rfl ha0 ?_; intro w6 HB6 hg6 _))
              exact ret_tri2 rfl B zero3 rfl rfl HB6 rfl ⟨by rw [TF.out.1, TF.out.2]; rfl, by rw [HB.out]; exact hb0.grown hg6 (by omega) (by simp)⟩
      · obtain rfl : k = 3 := by omega
        have HT := Lib.hid (thr_yes (thr_end n l HL.out hin.out))
        obtain ⟨x, y, z, rfl⟩ := of_three HL.out
        obtain ⟨b, o, rfl, hbH, c0, c1, c2⟩ := rd3 hr0
        clear hr0 hin
        go_wp2
        go_still_tail 10, (by kernel_rfl)
        change wpList _ _ _ _ _ wr.drew
        refine store_tri rfl (.tmp 4) (.tmp 44) rfl B zero3 [x, y, z] rfl rfl rfl rfl (w := wr.drew) ha0 ?_
        intro w6 HB6 hg6 _
        go_wp2
        exact ret_tri2 rfl B [x, y, z] rfl rfl HB6 rfl ⟨by rw [HT.out.1, HT.out.2]; rfl, by rw [HB.out]; exact hb0.drew.grown hg6 (by simp; omega) (by simp)⟩
  · have TF := Lib.hid (thr_no (n := n) (l := l) (fun hh => hm3 (by rw [← HL.out]; exact hh.1)))
    have e0 : ((m : Int) != 3) = true := by simp; omega
    have HA := Lib.hid (new_tri w)
    clear h hm3
    go_wp2_with (refine store_tri rfl _ _ rfl w.heap.size zero3 zero3 rfl rfl rfl rfl HA ?_; intro w6 HB6 hg6 _)
    exact ret_tri2 rfl w.heap.size zero3 rfl rfl HB6 rfl ⟨by rw [TF.out.1, TF.out.2]; rfl, ((Below.refl _ _).alloc (Nat.le_refl _) _).grown hg6 (by simp) (by simp)⟩
end Go.Proofs.Ytdlgabefbomleaa
