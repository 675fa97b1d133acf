/- The pattern at a set of three points at least is a ring. Plain lemmas. -/
import Derived.Test.YtmfilnpbkonfaabDoorPnM
import Derived.Test.YtmfilnpbkonfaabDoorPR
namespace Go.Proofs.YtmfilnpbkonfaabDoor
open Go.ChangeShapes Go.WideShapes Go.ChangeAt Go.RowKit

theorem part_nodup {l : List Int} (ht : Tell l) {s : Nat} (hs : s < 2 ^ l.length) : (partL l s).Nodup := by
  refine (part_all_perm ht hs).nodup_iff.2 ?_
  unfold List.Nodup
  rw [List.pairwise_map]
  have hn : ((List.range 7).filter s.testBit).Nodup := List.nodup_range.filter _
  exact hn.imp fun h e => h (by injection e)
theorem blw_lt : ∀ (s : Fin 128) (x y : Fin 7), s.val.testBit x.val = true → x.val < y.val → blwN s.val x.val < blwN s.val y.val := by decide +kernel
theorem blw_top : ∀ (s : Fin 128) (x : Fin 7), s.val.testBit x.val = true → blwN s.val x.val < sizN s.val := by decide +kernel
theorem part_has {l : List Int} (ht : Tell l) {s : Nat} (hs : s < 2 ^ l.length) {x : Int} (hx : x ∈ partL l s) : s.testBit x.toNat = true := by
  have h := (part_all_perm ht hs).mem_iff.1 hx
  simp only [List.mem_map, List.mem_filter, List.mem_range] at h
  obtain ⟨v, ⟨_, hv⟩, rfl⟩ := h
  exact hv
/-- The pattern at a set of three points at least is a ring. -/
theorem pat_ring {l : List Int} (ht : Tell l) {s : Nat} (hs : s < 2 ^ l.length) (h3 : 3 ≤ sizN s) : Ring (patL l s) := by
  have h128 := fits s l.length ht.2.1 hs
  have hl := pat_length ht hs
  have hbd := part_bd ht hs
  have h0 : 0 < s := siz_pos rfl (by omega)
  have e := pat_map ht hs
  have hnd := part_nodup ht hs
  refine ⟨⟨by omega, by rw [hl]; exact siz_le s, fun x hx => ?_, ?_⟩, ?_⟩
  · rw [hl]
    rw [e] at hx
    obtain ⟨y, hy, rfl⟩ := List.mem_map.1 hx
    have hb := hbd y hy
    have := blw_top ⟨s, h128⟩ ⟨y.toNat, by omega⟩ (part_has ht hs hy)
    simp only at this
    omega
  · rw [e]
    unfold List.Nodup
    rw [List.pairwise_map]
    refine List.Pairwise.imp_of_mem (fun {a b} ha hb hne he => ?_) hnd
    have ba := hbd a ha
    have bb := hbd b hb
    rcases (show a < b ∨ b < a by omega) with h | h
    · have := blw_lt ⟨s, h128⟩ ⟨a.toNat, by omega⟩ ⟨b.toNat, by omega⟩ (part_has ht hs ha) (by simp; omega)
      simp only at this
      omega
    · have := blw_lt ⟨s, h128⟩ ⟨b.toNat, by omega⟩ ⟨a.toNat, by omega⟩ (part_has ht hs hb) (by simp; omega)
      simp only at this
      omega
  · have hm := low_mem ht h0 hs
    have hlb := (low_has s h128 (by omega)).1
    have hh : hasN s ((lowN s : Nat) : Int) = true := by unfold hasN; rw [Int.toNat_natCast]; exact hlb
    have hc : (cutL l ((lowN s : Nat) : Int)).getD 0 0 = ((lowN s : Nat) : Int) := cut_first hm
    rw [e]
    unfold partL pickN
    cases ec : cutL l ((lowN s : Nat) : Int) with
    | nil =>
      have h1 := congrArg List.length ec
      rw [cutL_len, List.length_nil] at h1
      have := ht.1
      omega
    | cons x t =>
      rw [ec] at hc
      have hx : x = ((lowN s : Nat) : Int) := by simpa [List.getD] using hc
      subst hx
      rw [List.filter_cons, if_pos hh, List.map_cons]
      have hl6 := low_le s
      have h4 := (blw_low ⟨s, h128⟩ ⟨lowN s, by omega⟩ hlb)
      simp only at h4
      show ((blwN s (((lowN s : Nat) : Int)).toNat : Nat) : Int) = 0
      rw [Int.toNat_natCast, h4.2 trivial]
      rfl
end Go.Proofs.YtmfilnpbkonfaabDoor
