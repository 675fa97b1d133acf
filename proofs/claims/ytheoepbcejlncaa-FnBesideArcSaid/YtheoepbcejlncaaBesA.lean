/- Points beside each other are an arc: plain lemmas, contracts over rows at hand. -/
import Derived.Test.YtheoepbcejlncaaBesI
import Derived.Test.YtheoepbcejlncaaArT
import Derived.Test.YtheoepbcejlncaaRw
namespace Go.Proofs.Ytheoepbcejlncaa
open Go.ChangeShapes Go.WideShapes Go.ChangeAt Go.RowKit

section
variable {w : World} {A : Option Addr} {n c : Nat} {L : List Int}
theorem cI_ArcIsB (h : Rw w A n c L) (s : Int) : Calls Try.prog 13 #[.slice A n c, .int .i64 s] w fun e w' => e = .returned (.bool (arcB L s)) ∧ Below w.heap.size w w' :=
  isI_any A n c w.heap.size L s w h.rd (Nat.le_refl _) h.big h.2.1 h.2.2.1
theorem cI_PairBesideB (h : Rw w A n c L) (x y : Int) : Calls Try.prog 40 #[.slice A n c, .int .i64 x, .int .i64 y] w fun e w' => e = .returned (.bool (bsB L x y)) ∧ Below w.heap.size w w' :=
  bsI_any A n c w.heap.size L x y w h.rd (Nat.le_refl _) h.big h.2.1 h.2.2.1
theorem cS_PairBesideB (h : Rw w A n c L) (x y : Int) : Calls Try.prog 41 #[.slice A n c, .int .i64 x, .int .i64 y] w fun e w' => e = .returned (.bool (bsB L x y)) ∧ Below w.heap.size w w' :=
  bsS_any A n c w.heap.size L x y w h.rd (Nat.le_refl _) h.big
end
theorem idxAtB {l : List Int} (hn : l.Nodup) {i : Nat} (hi : i < l.length) : l.idxOf (l.getD i 0) = i := by
  have e : l.getD i 0 = l[i] := by simp [List.getD, hi]
  rw [e]
  exact hn.idxOf_getElem i hi
theorem beside_key : ∀ n : Fin 8, 3 ≤ n.val → ∀ i : Fin 7, i.val < n.val → cntB n.val (2 ^ i.val ||| 2 ^ ((i.val + 1) % n.val)) = 1 := by decide +kernel
theorem beside_told {l : List Int} {x y : Int} (h : bsB l x y = true) : 0 ≤ x ∧ x < 7 ∧ 0 ≤ y ∧ y < 7 ∧ ∃ s : Nat, s = maskN [x, y] ∧ arcB l (s : Int) = true := by
  simp only [bsB, Bool.and_eq_true] at h
  obtain ⟨⟨hr0, ht⟩, hb⟩ := h
  have hr : Ring l := by simpa [ringB] using hr0
  have ht' : Two (l.length : Int) [x, y] := by simpa [two] using ht
  obtain ⟨⟨hx0, hx1⟩, ⟨hy0, hy1⟩, hne⟩ := (two2 _ x y).1 ht'
  have h3 := hr.1.1
  have h7 := hr.1.2.1
  have hnd := hr.1.2.2.2
  have hx : x ∈ l := hr.1.has hx0 hx1
  have hy : y ∈ l := hr.1.has hy0 hy1
  refine ⟨hx0, by omega, hy0, by omega, _, rfl, ?_⟩
  have hpos : ∀ z ∈ [x, y], 0 ≤ z := fun z hz => by simp at hz; omega
  have hmask : ∀ z : Int, 0 ≤ z → hasN (maskN [x, y]) z = decide (z ∈ [x, y]) := fun z hz => mask_has _ hpos z hz
  have hlt : maskN [x, y] < 2 ^ l.length := by
    refine Nat.lt_pow_two_of_testBit _ fun p hp => ?_
    have := hmask (p : Int) (by omega)
    rw [hasN, Int.toNat_natCast] at this
    rw [this, decide_eq_false_iff_not]
    simp
    omega
  have e2 : ((2 ^ l.length : Nat) : Int) = (2 : Int) ^ l.length := by simp
  have hset : SetL l ((maskN [x, y] : Nat) : Int) := ⟨hr, by omega, by omega⟩
  have hi := List.idxOf_lt_length_of_mem hx
  have hj := List.idxOf_lt_length_of_mem hy
  have gx : l.getD (l.idxOf x) 0 = x := (get_eq hnd hi hx).2 rfl
  have gy : l.getD (l.idxOf y) 0 = y := (get_eq hnd hj hy).2 rfl
  have hbits : bitsL (hasN (maskN [x, y])) l = 2 ^ l.idxOf x ||| 2 ^ l.idxOf y := by
    apply Nat.eq_of_testBit_eq
    intro k
    rw [Nat.testBit_or, Nat.testBit_two_pow, Nat.testBit_two_pow]
    rcases Nat.lt_or_ge k l.length with hk | hk
    · rw [bitsL_bit _ l k hk, hmask _ (hr.1.2.2.1 _ (getD_mem l k hk)).1, Bool.eq_iff_iff]
      simp only [List.mem_cons, List.not_mem_nil, or_false, decide_eq_true_eq, Bool.or_eq_true]
      rw [get_eq hnd hk hx, get_eq hnd hk hy]
      omega
    · rw [Nat.testBit_lt_two_pow (Nat.lt_of_lt_of_le (bitsL_lt _ l) (Nat.pow_le_pow_right (by omega) hk))]
      simp
      omega
  have hb2 := hb
  rw [bes_eq hnd (by omega) hx hy, Bool.or_eq_true, beq_iff_eq, beq_iff_eq] at hb2
  have hcnt : cntB l.length (2 ^ l.idxOf x ||| 2 ^ l.idxOf y) = 1 := by
    rcases hb2 with e | e
    · have ej : (l.idxOf x + 1) % l.length = l.idxOf y := (get_eq hnd (Nat.mod_lt _ (by omega)) hy).1 e
      have := beside_key ⟨l.length, by omega⟩ h3 ⟨l.idxOf x, by omega⟩ hi
      simp only at this
      rwa [ej] at this
    · have ej : (l.idxOf y + 1) % l.length = l.idxOf x := (get_eq hnd (Nat.mod_lt _ (by omega)) hx).1 e
      have := beside_key ⟨l.length, by omega⟩ h3 ⟨l.idxOf y, by omega⟩ hj
      simp only at this
      rw [ej, Nat.or_comm] at this
      exact this
  rw [arcB, set_yes hset, Int.toNat_natCast, Bool.true_and, decide_eq_true_eq, runN_bits, hbits]
  exact hcnt
end Go.Proofs.Ytheoepbcejlncaa
