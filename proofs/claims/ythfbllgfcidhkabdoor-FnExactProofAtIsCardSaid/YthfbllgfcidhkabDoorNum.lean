/- The number of a ring: the model's loops and the program's loops count alike. -/
import Derived.Test.YthfbllgfcidhkabDoorMA
import Derived.Test.YthfbllgfcidhkabDoorPR
namespace Go.Proofs.YthfbllgfcidhkabDoor
open Go.ChangeShapes Go.WideShapes Go.ChangeAt Go.RowKit

/-- How many points between the places i and k are less than the one at i. -/
def cnt (l : List Int) (i : Nat) : Nat → Nat
  | 0 => 0
  | k + 1 => cnt l i k + if i < k ∧ l.getD k 0 < l.getD i 0 then 1 else 0
theorem cnt_le (l : List Int) (i k : Nat) : cnt l i k ≤ k := by
  induction k with
  | zero => simp [cnt]
  | succ k ih => rw [cnt]; split <;> omega
theorem cnt_start (l : List Int) (i : Nat) : ∀ k, k ≤ i + 1 → cnt l i k = 0
  | 0, _ => rfl
  | k + 1, h => by rw [cnt, cnt_start l i k (by omega), if_neg (by omega)]
theorem cnt_zero (l : List Int) (h0 : l.getD 0 0 = 0) (h : ∀ x ∈ l, 0 ≤ x) : ∀ k, k ≤ l.length → cnt l 0 k = 0
  | 0, _ => rfl
  | k + 1, hk => by
    rw [cnt, cnt_zero l h0 h k (by omega), if_neg]
    rintro ⟨_, hlt⟩
    have := h _ (getD_mem l k (by omega))
    omega
def numP (l : List Int) : Nat → Int
  | 0 => 0
  | m + 1 => numP l m + (cnt l m l.length : Int) * facN (l.length - 1 - m)
theorem facN_bd (m : Nat) : 1 ≤ facN m ∧ facN m ≤ 5040 := by
  match m with
  | 0 | 1 | 2 | 3 | 4 | 5 | 6 => simp [facN]
  | _ + 7 => simp [facN]
theorem prod_bd (c : Nat) (f : Int) (hc : c ≤ 7) (hf : 1 ≤ f ∧ f ≤ 5040) : 0 ≤ (c : Int) * f ∧ (c : Int) * f ≤ 35280 := by
  obtain rfl | rfl | rfl | rfl | rfl | rfl | rfl | rfl : c = 0 ∨ c = 1 ∨ c = 2 ∨ c = 3 ∨ c = 4 ∨ c = 5 ∨ c = 6 ∨ c = 7 := by omega
  all_goals omega
theorem numP_bd (l : List Int) (hl : l.length ≤ 7) : ∀ m, m ≤ 7 → 0 ≤ numP l m ∧ numP l m ≤ 35280 * m
  | 0, _ => by simp [numP]
  | m + 1, h => by
    have ih := numP_bd l hl m (by omega)
    have hb := prod_bd (cnt l m l.length) (facN (l.length - 1 - m)) (by have := cnt_le l m l.length; omega) (facN_bd _)
    rw [numP]
    push_cast
    omega

theorem facS_nat (m : Nat) (k : Int) (w : World) (hk : k = m) (hm : m ≤ 6) :
    Calls Tryd.prog 64 #[.int .i64 k] w fun e w' => e = .returned (.int .i64 (facN m)) ∧ w = w' := by
  subst hk
  have := facS_any (m : Int) w (by omega) (by omega)
  rwa [Int.toNat_natCast] at this
theorem facI_nat (m : Nat) (k : Int) (w : World) (hk : k = m) (hm : m ≤ 6) :
    Calls Tryd.prog 73 #[.int .i64 k] w fun e w' => e = .returned (.int .i64 (facN m)) ∧ w = w' := by
  subst hk
  have := facI_any (m : Int) w (by omega) (by omega)
  rwa [Int.toNat_natCast] at this

set_option maxHeartbeats 2000000 in
theorem numS_any (A : Option Addr) (n c H : Nat) (l : List Int) (w : World) (h : Rd w H A n l) (h1 : 1 ≤ n) (hn : n ≤ 7) (hr : Ring l) :
    Calls Tryd.prog 36 #[.slice A n c] w fun e w' => e = .returned (.int .i64 (numP l n)) ∧ Below w.heap.size w w' := by
  have HL := Lib.hid h.len
  have hst : numP l 1 = 0 := by
    rw [numP, numP, cnt_zero l hr.2 hr.1.pos _ (Nat.le_refl _)]; simp
  have HST := Lib.hid hst
  clear hst hr
  go_enter Tryd.func36, Tryd.ntmps36
  go_wp2
  go_loopw [3, 4] (fun s i wr => ∃ m : Nat, 1 ≤ m ∧ m ≤ n ∧ i = .int .i64 m ∧ s = .int .i64 (numP l m) ∧ Rd wr H A n l ∧ Below w.heap.size w wr) (fun _ i _ => n - (intOf i).toNat)
  case atStart => exact ⟨1, Nat.le_refl _, h1, rfl, by rw [HST.out], h, Below.refl _ _⟩
  case round =>
    obtain ⟨m, hm1, hm, rfl, rfl, hrd, hbl⟩ := hrel
    by_cases hlt : m < n
    · obtain ⟨b, o, rfl, hbH, hcs⟩ := hrd.at_ (by omega)
      have HCS := Lib.hid hcs
      obtain ⟨hq1, hq2⟩ := numP_bd l (by rw [HL.out]; exact hn) m (by omega)
      have HNX : Hid (numP l (m + 1) = numP l m + (cnt l m n : Int) * facN (n - 1 - m)) := by rw [Hid, numP, HL.out]
      have HPB := Lib.hid (prod_bd (cnt l m n) (facN (n - 1 - m)) (by have := cnt_le l m n; omega) (facN_bd _))
      clear h hcs
      generalize hq : numP l m = q at *
      have HQ := Lib.hid hq
      clear hq
      go_wp2
      obtain ⟨wo, rfl⟩ : ∃ wo : World, wo = wr := ⟨_, rfl⟩
      go_loopw [5, 6] (fun s i wr => ∃ k : Nat, m + 1 ≤ k ∧ k ≤ n ∧ i = .int .i64 k ∧ (∃ t : Nat, s = .int .i64 t ∧ t ≤ k ∧ Hid (t = cnt l m k)) ∧ Rd wr H (some ⟨b, o, none⟩) n l ∧ Below w.heap.size w wr) (fun _ i _ => n - (intOf i).toNat)
      case atStart => exact ⟨m + 1, Nat.le_refl _, hlt, by go_num, ⟨0, rfl, by omega, (cnt_start l m _ (Nat.le_refl _)).symm⟩, hrd, hbl⟩
      case round =>
        obtain ⟨k, hk1, hk, rfl, ⟨t, rfl, htk, ht⟩, hrd2, hbl2⟩ := hrel
        clear hrd hbl
        by_cases hlk : k < n
        · obtain ⟨b2, o2, e, _, hcs2⟩ := hrd2.at_ (by omega)
          injection e with e
          injection e with e1 e2 _
          subst e1; subst e2
          have hc1 := hcs2 k hlk
          have hc2 := hcs2 m hlt
          have T : Hid (cnt l m (k + 1) = t + if l.getD k 0 < l.getD m 0 then 1 else 0) := by
            rw [Hid, cnt, ← ht.out]
            simp [show m < k by omega]
          clear hcs2
          generalize l.getD k 0 = x at hc1 T
          generalize l.getD m 0 = y at hc2 T
          by_cases hxy : x < y
          · have hd : decide (x < y) = true := by simpa using hxy
            have T2 : Hid (t + 1 = cnt l m (k + 1)) := by rw [Hid, T.out, if_pos hxy]
            clear T hxy
            go_wp2
            go_quiet (fail)
            go_wp2
            go_roundw
            case rel => exact ⟨k + 1, by omega, by omega, by go_num, ⟨t + 1, by go_num, by omega, T2⟩, hrd2.drewN _, below_drewN hbl2 _⟩
            case measure => simp [intOf]; omega
          · have hd : decide (x < y) = false := by simpa using hxy
            have T2 : Hid (t = cnt l m (k + 1)) := by rw [Hid, T.out, if_neg hxy, Nat.add_zero]
            clear T hxy
            go_wp2
            go_quiet (fail)
            go_wp2
            go_roundw
            case rel => exact ⟨k + 1, by omega, by omega, by go_num, ⟨t, rfl, by omega, T2⟩, hrd2.drewN _, below_drewN hbl2 _⟩
            case measure => simp [intOf]; omega
        · obtain rfl : k = n := by omega
          obtain ⟨f, hf⟩ : ∃ f, f = facN (k - 1 - m) := ⟨_, rfl⟩
          have HF := Lib.hid hf
          clear hf
          go_wp2_with fail
          refine (facS_nat (k - 1 - m) _ _ (by omega) (by omega)).mono ?_
          rintro e w' ⟨rfl, rfl⟩
          rw [← HF.out]
          obtain ⟨p, hp⟩ : ∃ p : Int, p = (t : Int) * f := ⟨_, rfl⟩
          have hpb : 0 ≤ p ∧ p ≤ 35280 := by rw [hp, ht.out, HF.out]; exact HPB.out
          obtain ⟨hp0, hp1⟩ := hpb
          have hwp : wrap64 ((t : Int) * f) = p := by rw [← hp]; exact IntWalk.wrap64_in p ⟨by omega, by omega⟩
          have HNX2 : Hid (numP l (m + 1) = q + p) := by rw [Hid, HNX.out, hp, ht.out, HF.out]
          clear hp
          go_wp2
          go_roundw
          case rel => exact ⟨m + 1, by omega, by omega, by go_num, by rw [HNX2.out], hrd2, hbl2⟩
          case measure => simp [intOf]; omega
    · obtain rfl : m = n := by omega
      go_wp2
      go_ret
      exact ⟨rfl, hbl⟩

/-- A cut of an array between two places. -/
theorem slice_ring2 (W : World) (b m n : Nat) (hm : m ≤ n) (hn : n ≤ 7) :
    ∃ ad : Addr, (m < 7 → ad = ⟨b, m, none⟩) ∧
    (Instr.sliceAt 32 (.pointer (some ⟨b, 0, none⟩)) (some (.int .i64 (m : Int))) (some (.int .i64 (n : Int))) none).run Tryd.prog W = .ok (.slice (some ad) (n - m) (7 - m)) W := by
  obtain ⟨i, hi, _, hs, _⟩ := info_parts int_info
  have hal : Tryd.prog.arrayLen 32 = 7 := by kernel_rfl
  have hel : Tryd.prog.elem 32 = 3 := by kernel_rfl
  have h := run_sliceAt_array_lh (P := Tryd.prog) W 32 ⟨b, 0, none⟩ (by rw [hal, hel]; exact Tryd.underlying32) .i64 .i64 (m : Int) (n : Int) (by omega) (by omega) (by rw [hal]; omega)
  have hc : Tryd.prog.cellsOf 3 = 1 := cells_int
  refine ⟨if 7 = m then ⟨b, 0, none⟩ else (⟨b, 0, none⟩ : Addr).add (m * 1), fun hlt => ?_, ?_⟩
  · rw [if_neg (by omega), Nat.mul_one, Addr.add_lit, Nat.zero_add]
  · rw [h, hel, run_sizeOf W hi, Result.andThen_ok, hal, hc]
    simp [slicedAt]

set_option maxHeartbeats 2000000 in
theorem num_any (l : List Int) (w : World) (h1 : 1 ≤ l.length) (hl : l.length ≤ 7) (hp : ∀ x ∈ l, 0 ≤ x) :
    Calls Tryd.prog 43 #[agp l] w fun e w' => e = .returned (.int .i64 (numP l l.length)) ∧ Below w.heap.size w w' := by
  obtain ⟨a0, a1, a2, a3, a4, a5, a6, hP⟩ := seven (padR_length l hl)
  have HS := fun W => Lib.hid (size_any l W hl hp)
  have hga : ∀ k, k < l.length → ([a0, a1, a2, a3, a4, a5, a6] : List Int).getD k 0 = l.getD k 0 := fun k hk => by rw [← hP]; exact padR_get l k hk
  unfold agp at HS ⊢
  rw [hP] at HS ⊢
  simp only [ints, List.map_cons, List.map_nil] at HS ⊢
  have HSS := Lib.hid HS
  have HGA := Lib.hid hga
  clear hP hp HS hga
  generalize hn : l.length = n at *
  have HL := Lib.hid hn
  clear hn
  have hsl := fun W => slice_ring W w.heap.size n hl
  go_enter Tryd.func43, Tryd.ntmps43
  go_wp2_with (go_at_call 54; refine ((HSS.out _).out).mono ?_; rintro e w' ⟨rfl, rfl⟩)
  obtain ⟨W0, hW0⟩ : ∃ W, W = w.alloc (.cells #[.int .i64 a0, .int .i64 a1, .int .i64 a2, .int .i64 a3, .int .i64 a4, .int .i64 a5, .int .i64 a6] 32) := ⟨_, rfl⟩
  obtain ⟨W, hW⟩ : ∃ W, W = W0.alloc (.cells #[.int .i64 a0, .int .i64 a1, .int .i64 a2, .int .i64 a3, .int .i64 a4, .int .i64 a5, .int .i64 a6] 32) := ⟨_, rfl⟩
  rw [← hW0, ← hW]
  obtain ⟨k1, k2, k3⟩ := box_world w _ [a0, a1, a2, a3, a4, a5, a6] rfl W0 hW0
  have k4 : Arr W w.heap.size [a0, a1, a2, a3, a4, a5, a6] := by rw [hW]; exact k1.alloc _
  have HB := Lib.hid (show Below w.heap.size w W by rw [hW]; exact k2.alloc (by omega) _)
  have HA : Hid (∀ k, k < n → W.cell? ⟨w.heap.size, k, none⟩ = some (.int .i64 (l.getD k 0))) := fun k hk => by
    rw [← HGA.out k hk]
    exact k4.cell (by simp; omega)
  clear k1 k2 k3 k4 hW hW0 hsl HSS HGA
  generalize hB : w.heap.size = B at *
  have HBB := Lib.hid hB
  clear hB
  go_loop [4, 15] (fun s i => ∃ m : Nat, m ≤ n ∧ i = .int .i64 m ∧ s = .int .i64 (numP l m)) (fun _ i => n - (intOf i).toNat)
  case atStart => exact ⟨0, Nat.zero_le _, rfl, rfl⟩
  case round =>
    obtain ⟨m, hm, rfl, rfl⟩ := hrel
    by_cases hlt : m < n
    · obtain ⟨hq1, hq2⟩ := numP_bd l (by rw [HL.out]; exact hl) m (by omega)
      have HNX : Hid (numP l (m + 1) = numP l m + (cnt l m n : Int) * facN (n - 1 - m)) := by rw [Hid, numP, HL.out]
      have HPB := Lib.hid (prod_bd (cnt l m n) (facN (n - 1 - m)) (by have := cnt_le l m n; omega) (facN_bd _))
      obtain ⟨ad, had, hsa⟩ := slice_ring2 W B (m + 1) n (by omega) hl
      have hsa' : (Instr.sliceAt 32 (.pointer (some ⟨B, 0, none⟩)) (some (.int .i64 ((m : Int) + 1))) (some (.int .i64 (n : Int))) none).run Tryd.prog W = .ok (.slice (some ad) (n - (m + 1)) (7 - (m + 1))) W := by
        have e : (((m + 1 : Nat)) : Int) = (m : Int) + 1 := by omega
        rw [← e]; exact hsa
      have HAD := Lib.hid had
      have hcm := HA.out m hlt
      clear hsa had
      generalize hq : numP l m = q at *
      have HQ := Lib.hid hq
      clear hq
      generalize hy : l.getD m 0 = y at *
      have HY := Lib.hid hy
      clear hy
      go_wp2
      go_loop [7, 25] (fun s i => ∃ k : Nat, k ≤ n - (m + 1) ∧ i = .int .i64 k ∧ (∃ t : Nat, s = .int .i64 t ∧ t ≤ k ∧ Hid (t = cnt l m (m + 1 + k)))) (fun _ i => (n - (m + 1)) - (intOf i).toNat)
      case atStart => exact ⟨0, Nat.zero_le _, rfl, ⟨0, rfl, by omega, (cnt_start l m _ (Nat.le_refl _)).symm⟩⟩
      case round =>
        obtain ⟨k, hk, rfl, ⟨t, rfl, htk, ht⟩⟩ := hrel
        clear hsa'
        by_cases hlk : k < n - (m + 1)
        · have hadr := HAD.out (by omega)
          subst hadr
          have hc1 := HA.out (m + 1 + k) (by omega)
          have T : Hid (cnt l m (m + 1 + k + 1) = t + if l.getD (m + 1 + k) 0 < y then 1 else 0) := by
            rw [Hid, cnt, ← ht.out, HY.out]
            simp [show m < m + 1 + k by omega]
          generalize l.getD (m + 1 + k) 0 = x at hc1 T
          by_cases hxy : x < y
          · have T2 : Hid (t + 1 = cnt l m (m + 1 + (k + 1))) := by rw [Hid, ← Nat.add_assoc, T.out, if_pos hxy]
            clear T
            go_wp2
            go_round
            case rel => exact ⟨k + 1, by omega, by go_num, ⟨t + 1, by go_num, by omega, T2⟩⟩
            case measure => simp [intOf]; omega
          · have T2 : Hid (t = cnt l m (m + 1 + (k + 1))) := by rw [Hid, ← Nat.add_assoc, T.out, if_neg hxy, Nat.add_zero]
            clear T
            go_wp2
            go_round
            case rel => exact ⟨k + 1, by omega, by go_num, ⟨t, rfl, by omega, T2⟩⟩
            case measure => simp [intOf]; omega
        · have ht2 : Hid (t = cnt l m n) := by
            have := ht.out
            rwa [show m + 1 + k = n by omega] at this
          obtain ⟨f, hf⟩ : ∃ f, f = facN (n - 1 - m) := ⟨_, rfl⟩
          have HF := Lib.hid hf
          clear hf
          go_wp2_with fail
          refine (facI_nat (n - 1 - m) _ _ (by omega) (by omega)).mono ?_
          rintro e w' ⟨rfl, rfl⟩
          rw [← HF.out]
          obtain ⟨p, hp⟩ : ∃ p : Int, p = (t : Int) * f := ⟨_, rfl⟩
          have hpb : 0 ≤ p ∧ p ≤ 35280 := by rw [hp, ht2.out, HF.out]; exact HPB.out
          obtain ⟨hp0, hp1⟩ := hpb
          have hwp : wrap64 ((t : Int) * f) = p := by rw [← hp]; exact IntWalk.wrap64_in p ⟨by omega, by omega⟩
          have HNX2 : Hid (numP l (m + 1) = q + p) := by rw [Hid, HNX.out, hp, ht2.out, HF.out]
          clear hp
          go_wp2
          go_round
          case rel => exact ⟨m + 1, by omega, by go_num, by rw [HNX2.out]⟩
          case measure => simp [intOf]; omega
    · obtain rfl : m = n := by omega
      go_wp2
      go_ret
      exact ⟨rfl, by rw [HBB.out]; exact HB.out⟩
end Go.Proofs.YthfbllgfcidhkabDoor
