/- A proof's text, told once its own check has passed. -/
import Derived.Test.YthefnanhikjddaaDoorPdPCl
import Derived.Test.YthefnanhikjddaaDoorPtW
namespace Go.Proofs.YthefnanhikjddaaDoor
open Go.ChangeShapes Go.WideShapes Go.ChangeAt Go.RowKit

attribute [local go_sem ↓] ldP_fold in
set_option maxRecDepth 10000 in
set_option maxHeartbeats 1000000 in
theorem told_Cl (mb : Nat) (p : ByteArray) (A : Option Addr) (c : Nat) (l : List Int) (w : World) (hp : p.size ≤ 100) (hb9 : ∀ x ∈ l, 0 ≤ x ∧ x ≤ 9) (hl : l.length ≤ 1048576)
    (HC : Hid (∀ W, Below w.heap.size w W → Calls Tryd.prog 22 #[.map (some mb), .slice A l.length c] W fun e w' => e = .returned (.bool true) ∧ Below W.heap.size W w')) (h : Rd w w.heap.size A l.length l) :
    Calls Tryd.prog 23 #[.agg #[.string p, .slice A l.length c, .func (.func 22) #[.map (some mb)] #[]]] w fun e w' => e = .returned (.tuple #[.string (tld p l), .bool true]) ∧ Below w.heap.size w w' := by
  have hb0 := (Below.refl w.heap.size w).alloc (Nat.le_refl _) (.cells #[.string p, .slice A l.length c, .func (.func 22) #[.map (some mb)] #[]] 52)
  have hs0 := hb0.size
  have hz0 : (w.alloc (.cells #[.string p, .slice A l.length c, .func (.func 22) #[.map (some mb)] #[]] 52)).heap.size = w.heap.size + 1 := by simp
  have p0 : PfB (w.alloc (.cells #[.string p, .slice A l.length c, .func (.func 22) #[.map (some mb)] #[]] 52)) w.heap.size [.string p, .slice A l.length c, .func (.func 22) #[.map (some mb)] #[]] := heap_alloc_new w _
  have hld := ldP_run p0 rfl
  have HC2 : Hid (∀ W, Below (w.alloc (.cells #[.string p, .slice A l.length c, .func (.func 22) #[.map (some mb)] #[]] 52)).heap.size (w.alloc (.cells #[.string p, .slice A l.length c, .func (.func 22) #[.map (some mb)] #[]] 52)) W → Calls Tryd.prog 22 #[.map (some mb), .slice A l.length c] W fun e w' => e = .returned (.bool true) ∧ Below W.heap.size W w') :=
    fun W hW => HC.out W (hb0.trans (hW.mono hs0))
  have HH := Lib.hid (holds_Cl mb p (.slice A l.length c) _ true HC2)
  have P0 := Lib.hid p0
  have HB0 := Lib.hid hb0
  have HR := Lib.hid h
  have HB9 := Lib.hid hb9
  obtain ⟨n, hn⟩ : ∃ n, n = l.length := ⟨_, rfl⟩
  have HN := Lib.hid hn
  have HT0 : Hid (p = tld p (l.take 0)) := by rw [Hid, List.take_zero, tld_nil]
  rw [← hn] at hl HH hld P0 HB0 hz0 HR ⊢
  clear p0 HC HC2 h hb9 hb0 hn hs0
  go_enter Tryd.func23, Tryd.ntmps23
  go_wp2_with fail
  refine HH.out.mono ?_
  rintro e w1 ⟨rfl, hb1⟩
  have q1 := P0.out.keep hb1 (by omega)
  have hc0 : w1.cell? ⟨w.heap.size, 0, none⟩ = some (.string p) := by rw [cell_of_row w1 w.heap.size 0 _ _ _ q1]; rfl
  have hc1 : w1.cell? ⟨w.heap.size, 1, none⟩ = some (.slice A n c) := by rw [cell_of_row w1 w.heap.size 1 _ _ _ q1]; rfl
  have HB1 := Lib.hid (HB0.out.trans (hb1.mono HB0.out.size))
  clear q1 hb1 HB0 P0 HH hld
  go_wp2
  go_loopw [4, 15] (fun t i wr => ∃ (k : Nat) (T : ByteArray), k ≤ n ∧ t = .string T ∧ i = .int .i64 k ∧ Hid (T = tld p (l.take k)) ∧ Hid (Below w.heap.size w wr)) (fun _ i _ => n - (intOf i).toNat)
  case atStart => exact ⟨0, p, Nat.zero_le _, rfl, rfl, HT0, HB1⟩
  case round =>
    obtain ⟨k, U, hk, rfl, rfl, hU, hbl⟩ := hrel
    clear HB1 hc0 hc1
    by_cases hlt : k < n
    · have hkl : k < l.length := by rw [← HN.out]; exact hlt
      have hR2 := HR.out.below hbl.out
      obtain ⟨bb, o, rfl, hbB, hcs⟩ := hR2.at_ (by omega)
      have hc := hcs k hlt
      have e : l.getD k 0 = l[k] := by simp [List.getD, hkl]
      have h9 := HB9.out (l.getD k 0) (by rw [e]; exact List.getElem_mem hkl)
      have HS : Hid (U ++ (⟨#[32]⟩ ++ ⟨#[UInt8.ofNat (48 + (l.getD k 0).toNat)]⟩) = tld p (l.take (k + 1))) := by
        rw [Hid, hU.out, ← tld_snoc, e, List.take_succ_eq_append_getElem hkl]
      have hus : U.size ≤ 3000000 := by
        rw [hU.out, tld_size, List.length_take]
        omega
      have ha1 : ¬ 9223372036854775807 < U.size + (1 + 1) := by omega
      have ha2 : ¬ 9223372036854775807 < U.size + 2 := by omega
      clear hcs hR2 e hU hkl hus
      generalize l.getD k 0 = x at hc h9 HS
      have HD := Lib.hid (fun W => itoa_digit x h9.1 h9.2 W)
      generalize UInt8.ofNat (48 + x.toNat) = d at *
      go_wp2_with fail
      refine (HD.out _).mono ?_
      rintro e w1 ⟨rfl, hw⟩
      rw [hw]
      clear hw
      go_wp2
      go_roundw
      case rel => exact ⟨k + 1, _, by omega, rfl, by go_num, HS, hbl⟩
      case measure => simp [intOf]; omega
    · obtain rfl : k = n := by omega
      have e : U = tld p l := by rw [hU.out, HN.out, List.take_length]
      have HE := Lib.hid e
      clear e hU
      go_wp2
      go_ret2
      exact ⟨by rw [← HE.out]; rfl, hbl.out⟩
end Go.Proofs.YthefnanhikjddaaDoor
