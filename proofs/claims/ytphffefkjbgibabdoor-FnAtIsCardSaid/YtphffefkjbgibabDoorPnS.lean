/- Patterns at sets: the model. -/
import Derived.Test.YtphffefkjbgibabDoorPnM
import Derived.Test.YtphffefkjbgibabDoorWvS
import Derived.Test.YtphffefkjbgibabDoorMA
import Derived.Test.YtphffefkjbgibabDoorArS
import Derived.Test.YtphffefkjbgibabDoorFold
namespace Go.Proofs.YtphffefkjbgibabDoor
open Go.ChangeShapes Go.WideShapes Go.ChangeAt Go.RowKit

theorem div_bit (s k : Nat) (hs : s < 128) : bits .and .i64 ((s / 2 ^ k : Nat) : Int) 1 = ((if s.testBit k then 1 else 0 : Nat) : Int) := by
  have hlt : s / 2 ^ k < 128 := Nat.lt_of_le_of_lt (Nat.div_le_self _ _) hs
  have := and_small (s / 2 ^ k) 1 hlt (by omega)
  rw [show ((1 : Nat) : Int) = 1 from rfl] at this
  rw [this, Nat.testBit_eq_decide_div_mod_eq, Nat.and_one_is_mod]
  have h2 := Nat.mod_two_eq_zero_or_one (s / 2 ^ k)
  rcases h2 with h2 | h2 <;> simp [h2]
theorem div_end : ∀ (s : Fin 128) (k : Fin 8), s.val / 2 ^ k.val = 0 → blwN s.val k.val = sizN s.val := by decide +kernel
theorem div_seven (s : Nat) (hs : s < 128) : s / 2 ^ 7 = 0 := Nat.div_eq_of_lt hs

theorem size8_any (s : Nat) (w : World) (hs : s < 128) :
    Calls Tryd.prog 53 #[.int .i64 (s : Int)] w fun e w' => e = .returned (.int .i64 (sizN s : Int)) ∧ w = w' := by
  have HB := Lib.hid (fun k => div_bit s k hs)
  have HE := Lib.hid (fun k (hk : k < 8) => div_end ⟨s, hs⟩ ⟨k, hk⟩)
  have H7 := Lib.hid (div_seven s hs)
  have HST := Lib.hid (blw_step s)
  have HLE := Lib.hid (blw_le s)
  have HD : Hid (∀ k, s / 2 ^ k / 2 = s / 2 ^ (k + 1)) := fun k => by rw [Nat.div_div_eq_div_mul, Nat.pow_succ]
  have H0 : Hid (s / 2 ^ 0 = s) := by rw [Hid, Nat.pow_zero, Nat.div_one]
  have HLT : Hid (∀ k, s / 2 ^ k < 128) := fun k => Nat.lt_of_le_of_lt (Nat.div_le_self _ _) hs
  obtain ⟨f, hf⟩ : ∃ f : Nat → Nat, f = fun k => s / 2 ^ k := ⟨_, rfl⟩
  have e : ∀ k, s / 2 ^ k = f k := fun k => by rw [hf]
  simp only [e] at HB HE H7 HD H0 HLT
  go_enter Tryd.func53, Tryd.ntmps53
  go_wp2
  go_loop [0, 3] (fun q c => ∃ k : Nat, k ≤ 7 ∧ (∃ y : Nat, q = .int .i64 (y : Int) ∧ Hid (y = f k)) ∧ ∃ z : Nat, c = .int .i64 (z : Int) ∧ Hid (z = blwN s k)) (fun q _ => (intOf q).toNat)
  case atStart => exact ⟨0, by omega, ⟨s, rfl, H0.out.symm⟩, 0, rfl, rfl⟩
  case round =>
    obtain ⟨k, hk, ⟨y, rfl, hy⟩, z, rfl, hz⟩ := hrel
    have hyl : y < 128 := by rw [hy.out]; exact HLT.out k
    have hzk : z ≤ k := by rw [hz.out]; exact HLE.out k
    by_cases h0 : 0 < y
    · have hk7 : k < 7 := by
        rcases Nat.lt_or_ge k 7 with h | h
        · exact h
        · obtain rfl : k = 7 := by omega
          have := H7.out
          have := hy.out
          omega
      have hb := HB.out k
      rw [← hy.out] at hb
      have T1 : Hid (z + (if s.testBit k then 1 else 0) = blwN s (k + 1)) := by rw [Hid, HST.out k, hz.out]
      have T2 : Hid (y / 2 = f (k + 1)) := by rw [Hid, hy.out]; exact HD.out k
      have hd1 : (if s.testBit k then 1 else 0 : Nat) ≤ 1 := by split <;> omega
      obtain ⟨d, hd⟩ : ∃ d : Nat, d = if s.testBit k then 1 else 0 := ⟨_, rfl⟩
      rw [← hd] at hb T1 hd1
      clear hd hf e hy hz
      have hq : Int.tdiv (y : Int) 2 = ((y / 2 : Nat) : Int) := by rw [Int.tdiv_eq_ediv_of_nonneg (by omega)]; omega
      go_wp2
      go_round
      case rel => exact ⟨k + 1, by omega, ⟨y / 2, by go_num, T2⟩, z + d, by go_num, T1⟩
      case measure => simp [intOf]; omega
    · obtain rfl : y = 0 := by omega
      have T : Hid (z = sizN s) := by rw [Hid, hz.out]; exact HE.out k (by omega) hy.out.symm
      have hT := T.out
      clear hf e hy hz
      go_wp2
      go_ret
      exact ⟨by first | rfl | rw [hT], rfl⟩

theorem rowS_step (l : List Int) (s k : Nat) (hk : k < l.length) : rowS (l.take (k + 1)) s = if hasN s (l.getD k 0) then rowS (l.take k) s ++ [(blwN s (l.getD k 0).toNat : Int)] else rowS (l.take k) s := by
  unfold rowS
  rw [pick_step s l k hk]
  split
  · rw [List.map_append]; rfl
  · rfl
theorem rowS_le (l : List Int) (s k : Nat) : (rowS (l.take k) s).length ≤ k := by
  rw [row_len]; exact pick_len s l k
theorem rowS_zero {l : List Int} (ht : Tell l) {s : Nat} (h0 : 0 < s) (hs : s < 2 ^ l.length) : (0 : Int) ∈ rowS l s := by
  have h128 := fits s l.length ht.2.1 hs
  have hlb := (low_has s h128 (by omega)).1
  have hl6 := low_le s
  have h4 := (blw_low ⟨s, h128⟩ ⟨lowN s, by omega⟩ hlb)
  simp only at h4
  refine List.mem_map.2 ⟨((lowN s : Nat) : Int), List.mem_filter.2 ⟨low_mem ht h0 hs, ?_⟩, ?_⟩
  · unfold hasN; rw [Int.toNat_natCast]; exact hlb
  · rw [Int.toNat_natCast, h4.2 trivial]; rfl

attribute [local go_sem ↓] apI_fold in
set_option maxRecDepth 10000 in
set_option maxHeartbeats 2000000 in
theorem of8_any (A : Option Addr) (n c H : Nat) (l : List Int) (s : Nat) (w : World) (h : Rd w H A n l) (hH : H ≤ w.heap.size) (ht : Tell l) (h0 : 0 < s) (hs : s < 2 ^ l.length) :
    Calls Tryd.prog 54 #[.slice A n c, .int .i64 (s : Int)] w fun e w' => ∃ v, e = .returned v ∧ Own w' w.heap.size v (patL l s) ∧ Below w.heap.size w w' := by
  have HL := Lib.hid h.len
  have h7 : n ≤ 7 := by have := ht.2.1; rw [HL.out] at this; exact this
  have hs7 := fits s l.length ht.2.1 hs
  have HCUT : Hid (∀ (B : Nat) (V : World) (v : Value) (c' : Nat) (A' : Option Addr), v = .slice A' (rowS l s).length c' → Own V B v (rowS l s) → Calls Tryd.prog 48 #[.slice A' (rowS l s).length c', .int .i64 0] V fun e w' => ∃ v, e = .returned v ∧ Own w' V.heap.size v (patL l s) ∧ Below V.heap.size V w') := fun B V v c' A' e ho => by
    subst e
    have hm := rowS_zero ht h0 hs
    have hlen : 1 ≤ (rowS l s).length := List.length_pos_of_mem hm
    have hle : (rowS l s).length ≤ 7 := by have := rowS_le l s l.length; rw [List.take_length] at this; have := ht.2.1; omega
    have := cutS_any A' (rowS l s).length c' V.heap.size (rowS l s) 0 V ho.rd.2 (Nat.le_refl _) hlen hle hm
    rw [pat_row ht h0 hs] at this
    exact this
  have HBD : Hid (∀ x ∈ l, 0 ≤ x ∧ x < 7) := fun x hx => by have := ht.2.2.1 x hx; have := ht.2.1; omega
  have HB := Lib.hid (fun x : Int => (shr_bit s x hs7).2)
  have HJ : Hid (∀ j : Nat, bits .and .i64 ((s : Int) / 2 ^ j) 1 = ((if s.testBit j then 1 else 0 : Nat) : Int)) := fun j => by
    rw [show (s : Int) / 2 ^ j = ((s / 2 ^ j : Nat) : Int) by simp]
    exact div_bit s j hs7
  have HST := Lib.hid (rowS_step l s)
  have HLE := Lib.hid (rowS_le l s)
  have HBS := Lib.hid (blw_step s)
  have HBL := Lib.hid (blw_le s)
  have HB0 : Hid (blwN s 0 = 0) := rfl
  have HF : Hid (rowS (l.take n) s = rowS l s) := by rw [Hid, List.take_of_length_le (by rw [HL.out]; omega)]
  have H0 : Hid (rowS (l.take 0) s = []) := rfl
  have ho0 := Lib.hid (own_empty w _ (Nat.le_refl _))
  have hb0 := Lib.hid ((Below.refl w.heap.size w).alloc (Nat.le_refl _) (.cells #[] 3))
  have HR := Lib.hid (fun (W : World) (hb : Below w.heap.size w W) => h.below (hb.mono hH))
  obtain ⟨f, hf⟩ : ∃ f : Nat → List Int, f = fun k => rowS (l.take k) s := ⟨_, rfl⟩
  have e : ∀ k, rowS (l.take k) s = f k := fun k => by rw [hf]
  simp only [e] at HST HLE HF H0
  rw [← HF.out] at HCUT
  generalize patL l s = R at *
  clear h ht h0 hs hs7 hf e
  go_enter Tryd.func54, Tryd.ntmps54
  go_wp2_with fail
  go_loopw [5, 6] (fun v i wr => ∃ k : Nat, k ≤ n ∧ i = .int .i64 k ∧ Hid (Own wr w.heap.size v (f k)) ∧ Hid (Below w.heap.size w wr)) (fun _ i _ => n - (intOf i).toNat)
  case atStart => exact ⟨0, Nat.zero_le _, rfl, by rw [Hid, H0.out]; exact ho0.out, hb0⟩
  case round =>
    obtain ⟨k, hk, rfl, hown, hbl⟩ := hrel
    clear ho0 hb0
    by_cases hlt : k < n
    · obtain ⟨b, o, rfl, hbH, hcs⟩ := (HR.out wr hbl.out).at_ (by omega)
      have hc := hcs k hlt
      have hxb := HBD.out _ (getD_mem l k (by rw [HL.out]; exact hlt))
      have T := HST.out k (by rw [HL.out]; exact hlt)
      have hle := HLE.out k
      have hbt := HB.out (l.getD k 0)
      obtain ⟨X, hX⟩ : ∃ X : Nat, l.getD k 0 = (X : Int) := ⟨(l.getD k 0).toNat, by omega⟩
      rw [hX] at hc hxb T hbt
      rw [Int.toNat_natCast] at T hbt
      have hX7 : X < 7 := by omega
      clear hcs hX hxb
      cases hp : hasN s (X : Int) with
      | false =>
        rw [hp] at T hbt
        rw [if_neg (by simp)] at T
        have HT := Lib.hid T
        clear T hp
        go_wp2
        go_roundw
        case rel => exact ⟨k + 1, by omega, by go_num, by rw [HT.out]; exact hown, hbl⟩
        case measure => simp [intOf]; omega
      | true =>
        rw [hp] at T hbt
        rw [if_pos rfl] at T
        obtain ⟨v', w1, hrun, hown', hgrow⟩ := apI_run hown.out hbl.out.size (by omega) (blwN s X : Int)
        rw [← T] at hown'
        have HO := Lib.hid hown'
        have HB1 := Lib.hid (apI_below hown.out hgrow (Nat.le_refl _) hbl.out hbl.out.size)
        clear T hp hown hown' hgrow hle
        go_wp2
        go_loop [7, 8] (fun q j => ∃ y : Nat, y ≤ X ∧ j = .int .i64 y ∧ ∃ z : Nat, q = .int .i64 (z : Int) ∧ Hid (z = blwN s y)) (fun _ j => X - (intOf j).toNat)
        case atStart => exact ⟨0, Nat.zero_le _, rfl, 0, rfl, HB0.out.symm⟩
        case round =>
          obtain ⟨y, hy, rfl, z, rfl, hz⟩ := hrel
          have hzy : z ≤ y := by rw [hz.out]; exact HBL.out y
          by_cases hly : y < X
          · have hb := HJ.out y
            have T1 : Hid (z + (if s.testBit y then 1 else 0) = blwN s (y + 1)) := by rw [Hid, HBS.out y, hz.out]
            have hd1 : (if s.testBit y then 1 else 0 : Nat) ≤ 1 := by split <;> omega
            obtain ⟨d, hd⟩ : ∃ d : Nat, d = if s.testBit y then 1 else 0 := ⟨_, rfl⟩
            rw [← hd] at hb T1 hd1
            clear hd hz hrun
            go_wp2
            go_round
            case rel => exact ⟨y + 1, by omega, by go_num, z + d, by go_num, T1⟩
            case measure => simp [intOf]; omega
          · obtain rfl : y = X := by omega
            have hz' := hz.out
            subst hz'
            clear hz hzy
            go_wp2
            go_roundw
            case rel => exact ⟨k + 1, by omega, by go_num, HO, HB1⟩
            case measure => simp [intOf]; omega
    · obtain rfl : k = n := by omega
      obtain ⟨A1, c1, ev⟩ := hown.out.slice
      have HC := Lib.hid (HCUT.out _ wr u5 c1 A1 ev hown.out)
      subst ev
      clear hown
      generalize (f k).length = z at *
      go_wp2_with fail
      refine HC.out.mono ?_
      rintro e w2 ⟨v2, rfl, ho2, hb2⟩
      have HO2 := Lib.hid (own_less ho2 hbl.out.size)
      have HB2 := Lib.hid (hbl.out.trans (hb2.mono hbl.out.size))
      obtain ⟨A2, c2, ev⟩ := ho2.slice
      subst ev
      clear ho2 hb2
      go_wp2
      go_ret
      exact ⟨_, rfl, HO2.out, HB2.out⟩
end Go.Proofs.YtphffefkjbgibabDoor
