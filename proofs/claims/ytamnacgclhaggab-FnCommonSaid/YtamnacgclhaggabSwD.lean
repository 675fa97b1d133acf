/- At how many sets of three points two rings differ: the model, the program. -/
import Derived.Test.YtamnacgclhaggabPR
import Derived.Test.YtamnacgclhaggabPai
import Derived.Test.YtamnacgclhaggabCC
import Derived.Test.YtamnacgclhaggabWdS
namespace Go.Proofs.Ytamnacgclhaggab
open Go.ChangeShapes Go.WideShapes Go.ChangeAt Go.RowKit

def dif (a b : List Int) (x y z : Nat) : Int := if has3 a [(x : Int), (y : Int), (z : Int)] = has3 b [(x : Int), (y : Int), (z : Int)] then 0 else 1
/-- With x and y as they are, the third ahead of z. -/
def difZ (a b : List Int) (x y z : Nat) : Int := sumN (fun j => dif a b x y (y + 1 + j)) (z - (y + 1))
def difY (a b : List Int) (x y : Nat) : Int := sumN (fun j => difZ a b x (x + 1 + j) a.length) (y - (x + 1))
def difX (a b : List Int) (x : Nat) : Int := sumN (fun i => difY a b i a.length) x
theorem dif_bd (a b : List Int) (x y z : Nat) : 0 ≤ dif a b x y z ∧ dif a b x y z ≤ 1 := by unfold dif; split <;> omega
theorem difZ_bd (a b : List Int) (x y z : Nat) (hz : z ≤ 7) : 0 ≤ difZ a b x y z ∧ difZ a b x y z ≤ 7 := by
  have h := sumN_bd (a := 0) (b := 1) (z - (y + 1)) (fun i _ => dif_bd a b x y (y + 1 + i))
  unfold difZ; omega
theorem difY_bd (a b : List Int) (x y : Nat) (hl : a.length ≤ 7) (hy : y ≤ 7) : 0 ≤ difY a b x y ∧ difY a b x y ≤ 49 := by
  have h := sumN_bd (a := 0) (b := 7) (y - (x + 1)) (fun i _ => difZ_bd a b x (x + 1 + i) a.length hl)
  unfold difY; omega
theorem difX_bd (a b : List Int) (x : Nat) (hl : a.length ≤ 7) (hx : x ≤ 7) : 0 ≤ difX a b x ∧ difX a b x ≤ 343 := by
  have h := sumN_bd (a := 0) (b := 49) x (fun i _ => difY_bd a b i a.length hl hl)
  unfold difX; omega
theorem difZ_start (a b : List Int) (x y : Nat) : difZ a b x y (y + 1) = 0 := by unfold difZ; rw [Nat.sub_self]; rfl
theorem difZ_step (a b : List Int) (x y z : Nat) (h : y < z) : difZ a b x y (z + 1) = difZ a b x y z + dif a b x y z := by
  unfold difZ
  rw [show z + 1 - (y + 1) = (z - (y + 1)) + 1 by omega, sumN, show y + 1 + (z - (y + 1)) = z by omega]
theorem difY_start (a b : List Int) (x : Nat) : difY a b x (x + 1) = 0 := by unfold difY; rw [Nat.sub_self]; rfl
theorem difY_step (a b : List Int) (x y : Nat) (h : x < y) : difY a b x (y + 1) = difY a b x y + difZ a b x y a.length := by
  unfold difY
  rw [show y + 1 - (x + 1) = (y - (x + 1)) + 1 by omega, sumN, show x + 1 + (y - (x + 1)) = y by omega]
theorem difX_step (a b : List Int) (x : Nat) : difX a b (x + 1) = difX a b x + difY a b x a.length := rfl

/-- Summed over rows. -/
def sumR (f : List Int → Int) : List (List Int) → Int
  | [] => 0
  | l :: L => f l + sumR f L
theorem sumR_append (f : List Int → Int) : ∀ L M, sumR f (L ++ M) = sumR f L + sumR f M
  | [], M => by simp [sumR]
  | l :: L, M => by rw [List.cons_append, sumR, sumR, sumR_append f L M]; omega
theorem sumR_take (f : List Int → Int) (L : List (List Int)) (k : Nat) (h : k < L.length) : sumR f (L.take (k + 1)) = sumR f (L.take k) + f (rowK L k) := by
  rw [List.take_succ_eq_append_getElem h, sumR_append]
  simp [sumR, rowK, List.getD, h]
def difP (a b e : List Int) : Int := difZ a b (e.getD 0 0).toNat (e.getD 1 0).toNat a.length
theorem sum_pv (a b : List Int) (x : Nat) : ∀ y, x < y → sumR (difP a b) (pv x y) = difY a b x y
  | 0, h => by omega
  | y + 1, h => by
    by_cases e : x = y
    · subst e; rw [pv_self, difY_start]; rfl
    · rw [pv_succ x y (by omega), sumR_append, sum_pv a b x y (by omega), difY_step _ _ _ _ (by omega)]
      congr 1
      simp [sumR, difP, p2, List.getD]
theorem sum_pw (a b : List Int) : ∀ x, x ≤ a.length → sumR (difP a b) (pw a.length x) = difX a b x
  | 0, _ => rfl
  | x + 1, h => by
    rw [pw_succ, sumR_append, sum_pw a b x (by omega), difX_step]
    rw [sum_pv a b x a.length (by omega)]
theorem sum_pairs (a b : List Int) : sumR (difP a b) (pairsL a.length) = difX a b a.length := sum_pw a b a.length (Nat.le_refl _)

def sdR (a b : List Int) : Int := if TwoR a b then difX a b a.length else 0

section
variable (A0 : Option Addr) (n0 c0 : Nat) (A1 : Option Addr) (n1 c1 H : Nat) (l0 l1 : List Int) (w : World) (h0 : Rd w H A0 n0 l0) (h1 : Rd w H A1 n1 l1) (hH : H ≤ w.heap.size) (hn0 : n0 ≤ 1048576) (hn1 : n1 ≤ 1048576)
include h0 h1 hH hn0 hn1

set_option maxHeartbeats 1000000 in
theorem sdS_any : Calls Try.prog 41 #[.slice A0 n0 c0, .slice A1 n1 c1] w fun e w' => e = .returned (.tuple #[.int .i64 (sdR l0 l1), .bool (twoB l0 l1)]) ∧ Below w.heap.size w w' := by
  have HT := Lib.hid (twoS_any A0 n0 c0 A1 n1 c1 H l0 l1 w h0 h1 hn0 hn1)
  by_cases h : TwoR l0 l1
  rotate_left
  · rw [sdR, if_neg h, twoNo h]
    rw [twoNo h] at HT
    clear h0 h1 h
    go_enter Try.func41, Try.ntmps41
    go_wp2_with fail
    refine HT.out.mono ?_
    rintro e w' ⟨rfl, rfl⟩
    go_wp2
    go_ret2
    exact ⟨rfl, Below.refl _ _⟩
  have L0 := h0.len
  have L1 := h1.len
  have h3 := h.1.1.1
  have h7 := h.1.1.2.1
  have ee := h.2.2
  rw [L0] at h3 h7 ee
  rw [L1] at ee
  subst ee
  have HM0 : Hid (∀ k : Nat, k < n0 → (k : Int) ∈ l0) := fun k hk => h.1.1.has (by omega) (by omega)
  have HM1 : Hid (∀ k : Nat, k < n0 → (k : Int) ∈ l1) := fun k hk => h.2.1.1.has (by omega) (by omega)
  rw [sdR, if_pos h, twoYes h]
  rw [twoYes h] at HT
  have HL := Lib.hid L0
  rw [L0]
  have HBX : Hid (∀ x, x ≤ n0 → 0 ≤ difX l0 l1 x ∧ difX l0 l1 x ≤ 343) := fun x hx => difX_bd l0 l1 x (by omega) (by omega)
  have HBY : Hid (∀ x y, y ≤ n0 → 0 ≤ difY l0 l1 x y ∧ difY l0 l1 x y ≤ 49) := fun x y hx => difY_bd l0 l1 x y (by omega) (by omega)
  have HBZ : Hid (∀ x y z, z ≤ n0 → 0 ≤ difZ l0 l1 x y z ∧ difZ l0 l1 x y z ≤ 7) := fun x y z hx => difZ_bd l0 l1 x y z (by omega)
  have HSX : Hid (∀ x, difX l0 l1 (x + 1) = difX l0 l1 x + difY l0 l1 x n0) := fun x => by rw [difX_step, L0]
  have HSY : Hid (∀ x y, x < y → difY l0 l1 x (y + 1) = difY l0 l1 x y + difZ l0 l1 x y n0) := fun x y hh => by rw [difY_step _ _ _ _ hh, L0]
  have HSZ : Hid (∀ x y z, y < z → difZ l0 l1 x y (z + 1) = difZ l0 l1 x y z + dif l0 l1 x y z) := fun x y z hh => difZ_step _ _ _ _ _ hh
  have HH : Hid (∀ V, Below w.heap.size w V → ∀ x y z : Nat, x < n0 → y < n0 → z < n0 → ∀ (l : List Int), (l = l0 ∨ l = l1) → ∀ A c, Rd V H A n0 l → Rd V V.heap.size (some ⟨V.heap.size - 1, 0, none⟩) 3 [(x : Int), (y : Int), (z : Int)] → Calls Try.prog 92 #[.slice A n0 c, .slice (some ⟨V.heap.size - 1, 0, none⟩) 3 3] V fun e w' => e = .returned (.bool (has3 l [(x : Int), (y : Int), (z : Int)])) ∧ ∃ q, w' = V.drewN q) := by
    intro V hV x y z hx hy hz l hl A c hR hR'
    rcases hl with rfl | rfl
    · exact l2Has_any A n0 c H l _ 3 _ x y z V hR hR' (by omega) h7 (HM0.out x hx) (HM0.out y hy) (HM0.out z hz)
    · exact l2Has_any A n0 c H l _ 3 _ x y z V hR hR' (by omega) h7 (HM1.out x hx) (HM1.out y hy) (HM1.out z hz)
  have HR0 := Lib.hid h0
  have HR1 := Lib.hid h1
  clear h h0 h1 HM0 HM1 L0 L1
  go_enter Try.func41, Try.ntmps41
  go_wp2_with fail
  refine HT.out.mono ?_
  rintro e w' ⟨rfl, rfl⟩
  go_wp2
  have HRK : Hid (∀ V, Below w.heap.size w V → Rd V H A0 n0 l0 ∧ Rd V H A1 n0 l1) := fun V hV => ⟨HR0.out.below (hV.mono hH), HR1.out.below (hV.mono hH)⟩
  clear HR0 HR1 HT
  go_loopw [6, 7] (fun c i wr => ∃ x : Nat, x ≤ n0 ∧ i = .int .i64 x ∧ c = .int .i64 (difX l0 l1 x) ∧ Hid (Below w.heap.size w wr)) (fun _ i _ => n0 - (intOf i).toNat)
  case atStart => exact ⟨0, by omega, rfl, rfl, Below.refl _ _⟩
  case round =>
    obtain ⟨x, hx, rfl, rfl, hbx⟩ := hrel
    have b0 := HBX.out x hx
    by_cases hlt : x < n0
    · go_wp2
      go_loopw [6, 8] (fun c i wr => ∃ y : Nat, x < y ∧ y ≤ n0 ∧ i = .int .i64 y ∧ c = .int .i64 (difX l0 l1 x + difY l0 l1 x y) ∧ Hid (Below w.heap.size w wr)) (fun _ i _ => n0 - (intOf i).toNat)
      case atStart => exact ⟨x + 1, by omega, by omega, by go_num, by rw [difY_start, Int.add_zero], hbx⟩
      case round =>
        obtain ⟨y, hxy, hy, rfl, rfl, hby⟩ := hrel
        have b1 := HBY.out x y hy
        clear hbx
        by_cases hly : y < n0
        · go_wp2
          go_loopw [6, 9] (fun c i wr => ∃ z : Nat, y < z ∧ z ≤ n0 ∧ i = .int .i64 z ∧ c = .int .i64 (difX l0 l1 x + difY l0 l1 x y + difZ l0 l1 x y z) ∧ Hid (Below w.heap.size w wr)) (fun _ i _ => n0 - (intOf i).toNat)
          case atStart => exact ⟨y + 1, by omega, by omega, by go_num, by rw [difZ_start, Int.add_zero], hby⟩
          case round =>
            obtain ⟨z, hyz, hz, rfl, rfl, hbz⟩ := hrel
            have b2 := HBZ.out x y z hz
            clear hby
            by_cases hlz : z < n0
            · have hbn := hbz.out.alloc hbz.out.size (.cells #[.int .i64 x, .int .i64 y, .int .i64 z] 3)
              have hsz : (wr.alloc (.cells #[.int .i64 x, .int .i64 y, .int .i64 z] 3)).heap.size - 1 = wr.heap.size := by simp
              have hR3 : Rd (wr.alloc (.cells #[.int .i64 x, .int .i64 y, .int .i64 z] 3)) (wr.alloc (.cells #[.int .i64 x, .int .i64 y, .int .i64 z] 3)).heap.size (some ⟨(wr.alloc (.cells #[.int .i64 x, .int .i64 y, .int .i64 z] 3)).heap.size - 1, 0, none⟩) 3 [(x : Int), (y : Int), (z : Int)] := by
                rw [hsz]
                refine ⟨rfl, fun _ => ⟨_, 0, rfl, by simp, fun k hk => ?_⟩⟩
                have hg : Blk 3 (wr.alloc (.cells #[.int .i64 x, .int .i64 y, .int .i64 z] 3)) wr.heap.size [(x : Int), (y : Int), (z : Int)] := heap_alloc_new wr _
                rw [Nat.zero_add]
                exact hg.cell hk
              have k0 := Lib.hid (HH.out _ hbn x y z (by omega) (by omega) (by omega) l0 (.inl rfl) A0 c0 (HRK.out _ hbn).1 hR3)
              have k1 := Lib.hid (fun q => HH.out ((wr.alloc (.cells #[.int .i64 x, .int .i64 y, .int .i64 z] 3)).drewN q) (below_drewN hbn q) x y z (by omega) (by omega) (by omega) l1 (.inr rfl) A1 c1 (HRK.out _ (below_drewN hbn q)).2 (hR3.drewN q))
              have hd : Hid (difZ l0 l1 x y (z + 1) = difZ l0 l1 x y z + if has3 l0 [(x : Int), (y : Int), (z : Int)] = has3 l1 [(x : Int), (y : Int), (z : Int)] then 0 else 1) := HSZ.out x y z hyz
              have HBN := Lib.hid (fun q => below_drewN hbn q)
              rw [hsz] at k0
              have k1 : Hid (∀ q, Calls Try.prog 92 #[.slice A1 n0 c1, .slice (some ⟨wr.heap.size, 0, none⟩) 3 3] ((wr.alloc (.cells #[.int .i64 x, .int .i64 y, .int .i64 z] 3)).drewN q) fun e w' => e = .returned (.bool (has3 l1 [(x : Int), (y : Int), (z : Int)])) ∧ ∃ q', w' = ((wr.alloc (.cells #[.int .i64 x, .int .i64 y, .int .i64 z] 3)).drewN q).drewN q') := fun q => by
                have := k1.out q
                rw [show ((wr.alloc (.cells #[.int .i64 x, .int .i64 y, .int .i64 z] 3)).drewN q).heap.size - 1 = wr.heap.size from hsz] at this
                exact this
              clear hbn hR3 hsz hbz
              generalize has3 l0 [(x : Int), (y : Int), (z : Int)] = t0 at *
              generalize has3 l1 [(x : Int), (y : Int), (z : Int)] = t1 at *
              generalize hX : difX l0 l1 x = dx at *
              generalize hY : difY l0 l1 x y = dy at *
              generalize hZ : difZ l0 l1 x y z = dz at *
              cases t0 <;> cases t1
              all_goals
                go_wp2_with fail
                refine k0.out.mono ?_
                rintro e w1 ⟨rfl, q, rfl⟩
                go_wp2_with fail
                refine (k1.out q).mono ?_
                rintro e w2 ⟨rfl, q', rfl⟩
                go_wp2
                go_roundw
                case rel => exact ⟨z + 1, by omega, by omega, by go_num, by simp [hd.out] <;> omega, Lib.hid (HBN.out (q + q'))⟩
                case measure => simp [intOf]; omega
            · obtain rfl : z = n0 := by omega
              have hs := HSY.out x y hxy
              go_wp2
              go_roundw
              case rel => exact ⟨y + 1, by omega, by omega, by go_num, by rw [hs]; congr 1; omega, hbz⟩
              case measure => simp [intOf]; omega
        · obtain rfl : y = n0 := by omega
          have hs := HSX.out x
          go_wp2
          go_roundw
          case rel => exact ⟨x + 1, by omega, by go_num, by rw [hs], hby⟩
          case measure => simp [intOf]; omega
    · obtain rfl : x = n0 := by omega
      go_wp2
      go_ret2
      exact ⟨rfl, hbx.out⟩

end
end Go.Proofs.Ytamnacgclhaggab
